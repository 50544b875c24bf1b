/- A second's text: the program's. -/
import Derived.Test.YtgandogkjcljkaaDoorCPut
import Derived.Lib.SmallJoins
namespace Go.Proofs.YtgandogkjcljkaaDoor
open Go.RowKit
set_option linter.unusedVariables false
set_option linter.unusedSimpArgs false

theorem PutAt.octs {w : World} {X T : Nat} {l : List Int} (h : PutAt w X T l) (hl : l.length = 19) (hx : ∀ x ∈ l, 0 ≤ x ∧ x ≤ 255) : Octs w (.slice (some ⟨T, 0, none⟩) 19 19) l := by
  refine ⟨hx, .inr ⟨(fun e => by rw [e] at hl; cases hl), T, 0, 19, by rw [hl], by omega, by unfold maxLen; omega, fun j x hj => ?_⟩⟩
  rw [Nat.zero_add]
  exact h.at hj
def retT (q : List Int × Int) : Value := .tuple #[.string (strOfNums q.1), .int .i64 q.2]
/-- What stays while the text is put: the numbers' block. -/
structure TextAt (w0 w : World) (N : Nat) (cs : Array Value) (l : List Int) : Prop where
  nums : w.heap[N]? = some (.cells cs 55)
  put : PutAt w (N + 1 + 1) (N + 1) l
  below : Below w0.heap.size w0 w
  far : w0.heap.size ≤ N
theorem TextAt.next {w0 w w' : World} {N : Nat} {cs : Array Value} {l l' : List Int} (h : TextAt w0 w N cs l) (hp : PutAt w' (N + 1 + 1) (N + 1) l') (hg : w.grownBy w' (some (N + 1))) : TextAt w0 w' N cs l' :=
  ⟨blk_grown h.nums hg (by simp), hp, h.below.grown hg h.below.size (fun k hk => by cases hk; exact Nat.le_succ_of_le h.far), h.far⟩
theorem TextAt.made {w0 w : World} {cs : Array Value} (hb : Below w0.heap.size w0 w) (l : List Int) : TextAt w0 (((w.alloc (.cells cs 55)).alloc (.cells (octC l) 5 (19, 20))).alloc (.cells #[.slice (some ⟨w.heap.size + 1, 0, none⟩) 19 19] 59)) w.heap.size cs l := by
  have h1 := blk_new w (.cells cs 55)
  have h2 := blk_new (w.alloc (.cells cs 55)) (.cells (octC l) 5 (19, 20))
  have h3 := blk_new ((w.alloc (.cells cs 55)).alloc (.cells (octC l) 5 (19, 20))) (.cells #[.slice (some ⟨w.heap.size + 1, 0, none⟩) 19 19] 59)
  simp only [size1] at h2 h3
  refine ⟨blk_up (blk_up h1 (up_alloc _ _)) (up_alloc _ _), ⟨h3, blk_up h2 (up_alloc _ _), by omega⟩, up_al (up_al (up_al hb _) _) _, hb.size⟩
set_option maxHeartbeats 2000000 in
theorem text_any (t : Int) (w : World) (he : Env w) : Calls Tryd.prog 17 #[.int .i64 t] w fun e w' => e = .returned (retT (textP t)) ∧ Below w.heap.size w w' := by
  have H1 := hid (split_any t w he)
  clear he
  by_cases h : 0 ≤ t ∧ t < 32503680000
  · have e : momP t = ([dateY (t / 86400), dateM (t / 86400), dateD (t / 86400), hourT t, minT t, secT t, (t / 86400 + 4) % 7], 0) := if_pos h
    have e2 : textP t = (txt (dateY (t / 86400)) (dateM (t / 86400)) (dateD (t / 86400)) (hourT t) (minT t) (secT t), 0) := if_pos h
    have OC : Hid (∀ x ∈ txt (dateY (t / 86400)) (dateM (t / 86400)) (dateD (t / 86400)) (hourT t) (minT t) (secT t), 0 ≤ x ∧ x ≤ 255) := txt_octet t h.1 h.2
    rw [e] at H1
    rw [e2]
    have D := date_is (day := t / 86400) (by omega) (by omega)
    have lm := lenM_pos (dateY (t / 86400)) (dateM (t / 86400))
    obtain ⟨y0, y1, m0, m1, d0, d1, -⟩ := D
    have hh : 0 ≤ hourT t ∧ hourT t < 24 ∧ 0 ≤ minT t ∧ minT t < 60 ∧ 0 ≤ secT t ∧ secT t < 60 := by unfold hourT minT secT; omega
    obtain ⟨q1, q2, q3, q4, q5, q6⟩ := hh
    have d2 : dateD (t / 86400) < 100 := by omega
    clear e e2 h lm d1
    have R : ∀ a b c d e f g x, retM ([a, b, c, d, e, f, g], x) = .tuple #[.agg #[.int .i64 a, .int .i64 b, .int .i64 c, .int .i64 d, .int .i64 e, .int .i64 f, .int .i64 g], .int .i64 x] := fun _ _ _ _ _ _ _ _ => rfl
    rw [R] at H1
    clear R
    generalize (t / 86400 + 4) % 7 = wd at *
    generalize dateY (t / 86400) = y at *
    generalize dateM (t / 86400) = m at *
    generalize dateD (t / 86400) = d at *
    generalize hourT t = a at *
    generalize minT t = b at *
    generalize secT t = s at *
    have F : Hid ((txt y m d a b s).length = 19) := txt_length _ _ _ _ _ _
    go_enter Tryd.func17, Tryd.ntmps17
    go_wp2_with fail
    refine H1.out.mono ?_
    rintro e w1 ⟨rfl, hb1⟩
    have T0 := TextAt.made (cs := #[.int .i64 y, .int .i64 m, .int .i64 d, .int .i64 a, .int .i64 b, .int .i64 s, .int .i64 wd]) hb1 blankT
    have CV := Joins.run_convert_bytes_const_at (P := Tryd.prog) (w1.alloc (.cells #[.int .i64 y, .int .i64 m, .int .i64 d, .int .i64 a, .int .i64 b, .int .i64 s, .int .i64 wd] 55)) 59 5 (octC blankT) 19 19 (w1.heap.size + 1) (by simp) Tryd.underlying59 Tryd.underlying5
    have OB : octC blankT = #[.int .u8 48, .int .u8 48, .int .u8 48, .int .u8 48, .int .u8 45, .int .u8 48, .int .u8 48, .int .u8 45, .int .u8 48, .int .u8 48, .int .u8 32, .int .u8 48, .int .u8 48, .int .u8 58, .int .u8 48, .int .u8 48, .int .u8 58, .int .u8 48, .int .u8 48] := rfl
    rw [OB] at CV
    have CV2 := CV
    clear CV
    have T0 := hid T0
    generalize hN : w1.heap.size = N at *
    go_wp2_with fail
    refine wp_loop_rounds 7 ?_
    rw [rounds_succ]
    go_wp2_with fail
    refine (put4_any blankT y rfl rfl rfl rfl (by omega) (by omega) _ _ _ T0.out.put).mono ?_
    rintro e w2 ⟨rfl, P, G⟩
    have T1 := hid (T0.out.next P.out G.out)
    clear T0 P G
    have n1 := blk_cell T1.out.nums 1 (.int .i64 m) rfl
    go_wp2_with fail
    rw [rounds_succ]
    go_wp2_with fail
    refine (put2_any _ 5 m (by omega) rfl rfl (by omega) (by omega) _ _ _ T1.out.put 6 rfl).mono ?_
    rintro e w3 ⟨rfl, P, G⟩
    have T2 := hid (T1.out.next P.out G.out)
    clear T1 n1 P G
    have n2 := blk_cell T2.out.nums 2 (.int .i64 d) rfl
    go_wp2_with fail
    rw [rounds_succ]
    go_wp2_with fail
    refine (put2_any _ 8 d (by omega) rfl rfl (by omega) (by omega) _ _ _ T2.out.put 9 rfl).mono ?_
    rintro e w4 ⟨rfl, P, G⟩
    have T3 := hid (T2.out.next P.out G.out)
    clear T2 n2 P G
    have n3 := blk_cell T3.out.nums 3 (.int .i64 a) rfl
    go_wp2_with fail
    rw [rounds_succ]
    go_wp2_with fail
    refine (put2_any _ 11 a (by omega) rfl rfl (by omega) (by omega) _ _ _ T3.out.put 12 rfl).mono ?_
    rintro e w5 ⟨rfl, P, G⟩
    have T4 := hid (T3.out.next P.out G.out)
    clear T3 n3 P G
    have n4 := blk_cell T4.out.nums 4 (.int .i64 b) rfl
    go_wp2_with fail
    rw [rounds_succ]
    go_wp2_with fail
    refine (put2_any _ 14 b (by omega) rfl rfl (by omega) (by omega) _ _ _ T4.out.put 15 rfl).mono ?_
    rintro e w6 ⟨rfl, P, G⟩
    have T5 := hid (T4.out.next P.out G.out)
    clear T4 n4 P G
    have n5 := blk_cell T5.out.nums 5 (.int .i64 s) rfl
    go_wp2_with fail
    rw [rounds_succ]
    go_wp2_with fail
    refine (put2_any _ 17 s (by omega) rfl rfl (by omega) (by omega) _ _ _ T5.out.put 18 rfl).mono ?_
    rintro e w7 ⟨rfl, P, G⟩
    have T6 := hid (T5.out.next P.out G.out)
    clear T5 n5 P G
    have PT : Hid (PutAt w7 (N + 1 + 1) (N + 1) (txt y m d a b s)) := T6.out.put
    have HB := hid T6.out.below
    clear T6
    have hc := PT.out.text
    have cv := run_convert_octs (txt y m d a b s) _ w7 (PT.out.octs F.out OC.out)
    go_wp2_with fail
    rw [rounds_succ]
    go_wp2
    go_returns
    exact ⟨rfl, HB.out⟩
  · have e : momP t = ([0, 0, 0, 0, 0, 0, 0], 4) := if_neg h
    have e2 : textP t = ([], 4) := if_neg h
    rw [e] at H1
    rw [e2]
    have R : retM ([0, 0, 0, 0, 0, 0, 0], 4) = .tuple #[.agg #[.int .i64 0, .int .i64 0, .int .i64 0, .int .i64 0, .int .i64 0, .int .i64 0, .int .i64 0], .int .i64 4] := rfl
    rw [R] at H1
    clear e e2 h R
    go_enter Tryd.func17, Tryd.ntmps17
    go_wp2_with fail
    refine H1.out.mono ?_
    rintro e w1 ⟨rfl, hb1⟩
    go_wp2
    go_returns
    exact ⟨rfl, up_al hb1 _⟩
end Go.Proofs.YtgandogkjcljkaaDoor
