/- A second's text: the document's. -/
import Derived.Test.YtgandogkjcljkaaDoorCText
namespace Go.Proofs.YtgandogkjcljkaaDoor
open Go.RowKit
set_option linter.unusedVariables false
set_option linter.unusedSimpArgs false

theorem txt_cat (y m d a b s : Int) : strOfNums (dig4 y) ++ { data := #[45] } ++ strOfNums (dig2 m) ++ { data := #[45] } ++ strOfNums (dig2 d) ++ { data := #[32] } ++ strOfNums (dig2 a) ++ { data := #[58] } ++ strOfNums (dig2 b) ++ { data := #[58] } ++ strOfNums (dig2 s) = strOfNums (txt y m d a b s) := by
  have e1 : ({ data := #[45] } : ByteArray) = strOfNums [45] := rfl
  have e2 : ({ data := #[32] } : ByteArray) = strOfNums [32] := rfl
  have e3 : ({ data := #[58] } : ByteArray) = strOfNums [58] := rfl
  rw [e1, e2, e3]
  simp only [str_cat]
  congr 1
set_option maxHeartbeats 2000000 in
set_option maxRecDepth 20000 in
theorem textR_any (t : Int) (w : World) : Calls Tryd.prog 18 #[.int .i64 t] w fun e w' => e = .returned (retT (textP t)) ∧ Below w.heap.size w w' := by
  have H1 := hid (SplitR_any t w)
  by_cases h : 0 ≤ t ∧ t < 32503680000
  · have e : momP t = ([dateY (t / 86400), dateM (t / 86400), dateD (t / 86400), hourT t, minT t, secT t, (t / 86400 + 4) % 7], 0) := if_pos h
    have e2 : textP t = (txt (dateY (t / 86400)) (dateM (t / 86400)) (dateD (t / 86400)) (hourT t) (minT t) (secT t), 0) := if_pos h
    rw [e] at H1
    rw [e2]
    have D := date_is (day := t / 86400) (by omega) (by omega)
    have lm := lenM_pos (dateY (t / 86400)) (dateM (t / 86400))
    obtain ⟨y0, y1, m0, m1, d0, d1, -⟩ := D
    have hh : 0 ≤ hourT t ∧ hourT t < 24 ∧ 0 ≤ minT t ∧ minT t < 60 ∧ 0 ≤ secT t ∧ secT t < 60 := by unfold hourT minT secT; omega
    obtain ⟨q1, q2, q3, q4, q5, q6⟩ := hh
    have R : ∀ a b c d e f g x, retM ([a, b, c, d, e, f, g], x) = .tuple #[.agg #[.int .i64 a, .int .i64 b, .int .i64 c, .int .i64 d, .int .i64 e, .int .i64 f, .int .i64 g], .int .i64 x] := fun _ _ _ _ _ _ _ _ => rfl
    rw [R] at H1
    have D1 := hid (digits4_any (dateY (t / 86400)) (by omega) (by omega))
    have D2 := hid (digits2_any (dateM (t / 86400)) (by omega) (by omega))
    have D3 := hid (digits2_any (dateD (t / 86400)) (by omega) (by omega))
    have D4 := hid (digits2_any (hourT t) (by omega) (by omega))
    have D5 := hid (digits2_any (minT t) (by omega) (by omega))
    have D6 := hid (digits2_any (secT t) (by omega) (by omega))
    clear R e e2 h lm d1 y0 y1 m0 m1 d0 q1 q2 q3 q4 q5 q6
    generalize (t / 86400 + 4) % 7 = wd at *
    generalize dateY (t / 86400) = y at *
    generalize dateM (t / 86400) = m at *
    generalize dateD (t / 86400) = d at *
    generalize hourT t = a at *
    generalize minT t = b at *
    generalize secT t = s at *
    have F := hid (txt_cat y m d a b s)
    have RT : retT (txt y m d a b s, 0) = .tuple #[.string (strOfNums (txt y m d a b s)), .int .i64 0] := rfl
    rw [RT]
    clear RT
    generalize strOfNums (txt y m d a b s) = TX at *
    have z1 : (strOfNums (dig4 y)).size = 4 := by rw [strOfNums_size]; rfl
    have z2 : (strOfNums (dig2 m)).size = 2 := by rw [strOfNums_size]; rfl
    have z3 : (strOfNums (dig2 d)).size = 2 := by rw [strOfNums_size]; rfl
    have z4 : (strOfNums (dig2 a)).size = 2 := by rw [strOfNums_size]; rfl
    have z5 : (strOfNums (dig2 b)).size = 2 := by rw [strOfNums_size]; rfl
    have z6 : (strOfNums (dig2 s)).size = 2 := by rw [strOfNums_size]; rfl
    generalize strOfNums (dig4 y) = S1 at *
    generalize strOfNums (dig2 m) = S2 at *
    generalize strOfNums (dig2 d) = S3 at *
    generalize strOfNums (dig2 a) = S4 at *
    generalize strOfNums (dig2 b) = S5 at *
    generalize strOfNums (dig2 s) = S6 at *
    go_enter Tryd.func18, Tryd.ntmps18
    go_wp2_with fail
    refine H1.out.mono ?_
    rintro e w1 ⟨rfl, hb1⟩
    have hk := blk_new w1 (.cells #[.int .i64 y, .int .i64 m, .int .i64 d, .int .i64 a, .int .i64 b, .int .i64 s, .int .i64 wd] 37)
    have UB := hid (up_al hb1 (.cells #[.int .i64 y, .int .i64 m, .int .i64 d, .int .i64 a, .int .i64 b, .int .i64 s, .int .i64 wd] 37))
    go_wp2_with fail
    generalize hW : w1.alloc (.cells #[.int .i64 y, .int .i64 m, .int .i64 d, .int .i64 a, .int .i64 b, .int .i64 s, .int .i64 wd] 37) = W at *
    have k0 : ∀ p : UpW W, p.val.cell? ⟨w1.heap.size, 0, none⟩ = some (.int .i64 y) := fun p => cell_up (blk_cell hk 0 _ rfl) p
    have k1 : ∀ p : UpW W, p.val.cell? ⟨w1.heap.size, 1, none⟩ = some (.int .i64 m) := fun p => cell_up (blk_cell hk 1 _ rfl) p
    have k2 : ∀ p : UpW W, p.val.cell? ⟨w1.heap.size, 2, none⟩ = some (.int .i64 d) := fun p => cell_up (blk_cell hk 2 _ rfl) p
    have k3 : ∀ p : UpW W, p.val.cell? ⟨w1.heap.size, 3, none⟩ = some (.int .i64 a) := fun p => cell_up (blk_cell hk 3 _ rfl) p
    have k4 : ∀ p : UpW W, p.val.cell? ⟨w1.heap.size, 4, none⟩ = some (.int .i64 b) := fun p => cell_up (blk_cell hk 4 _ rfl) p
    have k5 : ∀ p : UpW W, p.val.cell? ⟨w1.heap.size, 5, none⟩ = some (.int .i64 s) := fun p => cell_up (blk_cell hk 5 _ rfl) p
    clear hW hk
    refine wp_region_up (by kernel_rfl) (by kernel_rfl) ?_
    repeat (quiet_step (first | (go_at_call 31; with_reducible first | exact calls_up (D1.out _) | exact calls_up (D2.out _) | exact calls_up (D3.out _) | exact calls_up (D4.out _) | exact calls_up (D5.out _) | exact calls_up (D6.out _))))
    refine wpQuiet_nil ?_
    intro _ hw'
    obtain ⟨p, hw''⟩ := hw'
    subst hw''
    have UP : Hid (Below w.heap.size w p.val) := up_trans UB.out p.up
    go_wp2_with fail
    go_returns
    exact ⟨congrArg (fun z => Ending.returned (.tuple #[.string z, .int .i64 0])) F.out, UP⟩
  · have e : momP t = ([0, 0, 0, 0, 0, 0, 0], 4) := if_neg h
    have e2 : textP t = ([], 4) := if_neg h
    rw [e] at H1
    rw [e2]
    have R : retM ([0, 0, 0, 0, 0, 0, 0], 4) = .tuple #[.agg #[.int .i64 0, .int .i64 0, .int .i64 0, .int .i64 0, .int .i64 0, .int .i64 0, .int .i64 0], .int .i64 4] := rfl
    rw [R] at H1
    clear e e2 h R
    go_enter Tryd.func18, Tryd.ntmps18
    go_wp2_with fail
    refine H1.out.mono ?_
    rintro e w1 ⟨rfl, hb1⟩
    go_wp2
    go_returns
    exact ⟨rfl, up_al hb1 _⟩
end Go.Proofs.YtgandogkjcljkaaDoor
