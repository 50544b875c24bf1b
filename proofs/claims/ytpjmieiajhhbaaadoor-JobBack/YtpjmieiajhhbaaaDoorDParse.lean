/- The program's Parse. -/
import Derived.Test.YtpjmieiajhhbaaaDoorDFldM
import Derived.Test.YtpjmieiajhhbaaaDoorDFits
namespace Go.Proofs.YtpjmieiajhhbaaaDoor
open Go.RowKit
set_option linter.unusedVariables false
set_option linter.unusedSimpArgs false

theorem results_ruC {fn : Func} (h : fn.results = #[.cell 2 117, .tmp 3]) (tmps : Array Value) (w : World) {N : Nat} {a b c d e f g : Value} (ht : tmps.getD 2 undef = .pointer (some ⟨N, 0, none⟩))
    (hc : w.heap[N]? = some (.cells #[a, b, c, d, e, f, g] 117)) : (results fn tmps).run Tryd.prog w = .ok (.tuple #[.agg #[a, b, c, d, e, f, g], tmps.getD 3 undef]) w := by
  have c0 := blk_cell hc 0 a rfl
  have c1 := blk_cell hc 1 b rfl
  have c2 := blk_cell hc 2 c rfl
  have c3 := blk_cell hc 3 d rfl
  have c4 := blk_cell hc 4 e rfl
  have c5 := blk_cell hc 5 f rfl
  have c6 := blk_cell hc 6 g rfl
  have ht' : tmps[2]?.getD undef = .pointer (some ⟨N, 0, none⟩) := by simpa using ht
  simp only [results, h]
  simp [ht', go_sem, c0, c1, c2, c3, c4, c5, c6]
def rowC (s0 s1 s2 s3 s4 : Nat) : Array Value := #[.int .u64 (s0 : Int), .int .u64 (s1 : Int), .int .u64 (s2 : Int), .int .u64 (s3 : Int), .int .u64 (s4 : Int)]
/-- What Parse has made so far. -/
structure PsW (w : World) (M : Nat) (a b c d e : List Int) (s0 s1 s2 s3 s4 : Nat) (W : World) : Prop where
  rul : W.heap[w.heap.size]? = some (.cells #[.int .u64 0, .int .u64 0, .int .u64 0, .int .u64 0, .int .u64 0, .bool false, .bool false] 117)
  wds : W.heap[M]? = some (.cells #[.string (strOfNums a), .string (strOfNums b), .string (strOfNums c), .string (strOfNums d), .string (strOfNums e)] 135)
  set : W.heap[M + 1]? = some (.cells (rowC s0 s1 s2 s3 s4) 138)
  far : w.heap.size < M
  below : Below w.heap.size w W
theorem PsW.up {w : World} {M : Nat} {a b c d e : List Int} {s0 s1 s2 s3 s4 : Nat} {W W' : World} (H : PsW w M a b c d e s0 s1 s2 s3 s4 W) (hb : Below W.heap.size W W') : PsW w M a b c d e s0 s1 s2 s3 s4 W' :=
  ⟨blk_up H.rul hb, blk_up H.wds hb, blk_up H.set hb, H.far, up_trans H.below hb⟩
theorem PsW.put0 {w : World} {M : Nat} {a b c d e : List Int} {s0 s1 s2 s3 s4 : Nat} {W : World} (H : PsW w M a b c d e s0 s1 s2 s3 s4 W) (x : Nat) : PsW w M a b c d e x s1 s2 s3 s4 (W.setCell ⟨M + 1, 0, none⟩ (.int .u64 (x : Int))) := by
  have g := grown_set W ⟨M + 1, 0, none⟩ (.int .u64 (x : Int))
  have f := H.far
  exact ⟨blk_grown H.rul g (by simp; omega), blk_grown H.wds g (by simp), blk_set H.set 0 _, f, H.below.grown g H.below.size (fun j hj => by simp at hj; omega)⟩
theorem PsW.put1 {w : World} {M : Nat} {a b c d e : List Int} {s0 s1 s2 s3 s4 : Nat} {W : World} (H : PsW w M a b c d e s0 s1 s2 s3 s4 W) (x : Nat) : PsW w M a b c d e s0 x s2 s3 s4 (W.setCell ⟨M + 1, 1, none⟩ (.int .u64 (x : Int))) := by
  have g := grown_set W ⟨M + 1, 1, none⟩ (.int .u64 (x : Int))
  have f := H.far
  exact ⟨blk_grown H.rul g (by simp; omega), blk_grown H.wds g (by simp), blk_set H.set 1 _, f, H.below.grown g H.below.size (fun j hj => by simp at hj; omega)⟩
theorem PsW.put2 {w : World} {M : Nat} {a b c d e : List Int} {s0 s1 s2 s3 s4 : Nat} {W : World} (H : PsW w M a b c d e s0 s1 s2 s3 s4 W) (x : Nat) : PsW w M a b c d e s0 s1 x s3 s4 (W.setCell ⟨M + 1, 2, none⟩ (.int .u64 (x : Int))) := by
  have g := grown_set W ⟨M + 1, 2, none⟩ (.int .u64 (x : Int))
  have f := H.far
  exact ⟨blk_grown H.rul g (by simp; omega), blk_grown H.wds g (by simp), blk_set H.set 2 _, f, H.below.grown g H.below.size (fun j hj => by simp at hj; omega)⟩
theorem PsW.put3 {w : World} {M : Nat} {a b c d e : List Int} {s0 s1 s2 s3 s4 : Nat} {W : World} (H : PsW w M a b c d e s0 s1 s2 s3 s4 W) (x : Nat) : PsW w M a b c d e s0 s1 s2 x s4 (W.setCell ⟨M + 1, 3, none⟩ (.int .u64 (x : Int))) := by
  have g := grown_set W ⟨M + 1, 3, none⟩ (.int .u64 (x : Int))
  have f := H.far
  exact ⟨blk_grown H.rul g (by simp; omega), blk_grown H.wds g (by simp), blk_set H.set 3 _, f, H.below.grown g H.below.size (fun j hj => by simp at hj; omega)⟩
theorem PsW.put4 {w : World} {M : Nat} {a b c d e : List Int} {s0 s1 s2 s3 s4 : Nat} {W : World} (H : PsW w M a b c d e s0 s1 s2 s3 s4 W) (x : Nat) : PsW w M a b c d e s0 s1 s2 s3 x (W.setCell ⟨M + 1, 4, none⟩ (.int .u64 (x : Int))) := by
  have g := grown_set W ⟨M + 1, 4, none⟩ (.int .u64 (x : Int))
  have f := H.far
  exact ⟨blk_grown H.rul g (by simp; omega), blk_grown H.wds g (by simp), blk_set H.set 4 _, f, H.below.grown g H.below.size (fun j hj => by simp at hj; omega)⟩
/-- The rule is written. -/
theorem PsW.fin {w : World} {M : Nat} {a b c d e : List Int} {s0 s1 s2 s3 s4 : Nat} {W : World} (H : PsW w M a b c d e s0 s1 s2 s3 s4 W) (x0 x1 x2 x3 x4 x5 x6 : Value) :
    (((((((W.setCell ⟨w.heap.size, 0, none⟩ x0).setCell ⟨w.heap.size, 1, none⟩ x1).setCell ⟨w.heap.size, 2, none⟩ x2).setCell ⟨w.heap.size, 3, none⟩ x3).setCell ⟨w.heap.size, 4, none⟩ x4).setCell ⟨w.heap.size, 5, none⟩ x5).setCell ⟨w.heap.size, 6, none⟩ x6).heap[w.heap.size]? = some (.cells #[x0, x1, x2, x3, x4, x5, x6] 117) ∧
    Below w.heap.size w (((((((W.setCell ⟨w.heap.size, 0, none⟩ x0).setCell ⟨w.heap.size, 1, none⟩ x1).setCell ⟨w.heap.size, 2, none⟩ x2).setCell ⟨w.heap.size, 3, none⟩ x3).setCell ⟨w.heap.size, 4, none⟩ x4).setCell ⟨w.heap.size, 5, none⟩ x5).setCell ⟨w.heap.size, 6, none⟩ x6) :=
  ⟨set7_blk H.rul _ _ _ _ _ _ _, H.below.grown (set7_grown _ _ _ _ _ _ _ _ _) H.below.size (fun j hj => by simp at hj; omega)⟩
def zeroC : Array Value := #[.int .u64 0, .int .u64 0, .int .u64 0, .int .u64 0, .int .u64 0, .bool false, .bool false]
theorem zero_fin {w W : World} (h : W.heap[w.heap.size]? = some (.cells zeroC 117)) (hb : Below w.heap.size w W) (x0 x1 x2 x3 x4 x5 x6 : Value) :
    (((((((W.setCell ⟨w.heap.size, 0, none⟩ x0).setCell ⟨w.heap.size, 1, none⟩ x1).setCell ⟨w.heap.size, 2, none⟩ x2).setCell ⟨w.heap.size, 3, none⟩ x3).setCell ⟨w.heap.size, 4, none⟩ x4).setCell ⟨w.heap.size, 5, none⟩ x5).setCell ⟨w.heap.size, 6, none⟩ x6).heap[w.heap.size]? = some (.cells #[x0, x1, x2, x3, x4, x5, x6] 117) ∧
    Below w.heap.size w (((((((W.setCell ⟨w.heap.size, 0, none⟩ x0).setCell ⟨w.heap.size, 1, none⟩ x1).setCell ⟨w.heap.size, 2, none⟩ x2).setCell ⟨w.heap.size, 3, none⟩ x3).setCell ⟨w.heap.size, 4, none⟩ x4).setCell ⟨w.heap.size, 5, none⟩ x5).setCell ⟨w.heap.size, 6, none⟩ x6) :=
  ⟨set7_blk h _ _ _ _ _ _ _, hb.grown (set7_grown _ _ _ _ _ _ _ _ _) hb.size (fun j hj => by simp at hj; omega)⟩
set_option maxHeartbeats 800000 in
set_option maxRecDepth 20000 in
theorem parse_any (l : List Int) (hx : ∀ x ∈ l, 0 ≤ x ∧ x ≤ 255) (hm : l.length ≤ 140737488355328) (w : World) (he : Env w) :
    Calls Tryd.prog 63 #[.string (strOfNums l)] w fun e w' => e = .returned (retR (parseR l)) ∧ Below w.heap.size w w' := by
  have hsz := strOfNums_size l
  have U0 := hid (up_alloc w (.cells zeroC 117))
  have B0 := hid (blk_new w (.cells zeroC 117))
  by_cases h4 : 400 < l.length
  · have E : Hid (parseR l = (ru0, 5)) := if_pos h4
    have h4' : 400 < (l.length : Int) := by omega
    go_enter Tryd.func63, Tryd.ntmps63
    go_wp2_with fail
    go_returns
    exact ⟨by rw [E.out]; rfl, U0.out⟩
  have h4' : ¬ 400 < (l.length : Int) := by omega
  have HC : Hid (∀ w', Calls Tryd.prog 77 #[.string (strOfNums l)] w' fun e w'' => e = .returned (.tuple #[.agg (arrW (wordsL l)), .int .i64 ((wordsL l).length : Int)]) ∧ Below w'.heap.size w' w'') := fun w' => cut_any l hx (by omega) w'
  have WO := wordsL_oct hx
  have lenw : (wordsL l).length ≤ 1000000 := by
    have f : ∀ (l w : List Int), (wordsF l w).length ≤ l.length + 1 := by
      intro l
      induction l with
      | nil => intro w; unfold wordsF; split <;> simp
      | cons c l ih =>
        intro w
        rw [wordsF_cons]
        split
        · split
          · have := ih []; simp at this ⊢; omega
          · have := ih []; simp at this ⊢; omega
        · have := ih (w ++ [c]); simp at this ⊢; omega
    have := f l []
    show (wordsF l []).length ≤ 1000000
    omega
  by_cases h5 : (wordsL l).length = 5
  case neg =>
    have E : Hid (parseR l = (ru0, 3)) := parseR_not h4 h5
    have ne : (((wordsL l).length : Int) != 5) = true := by simp; omega
    unfold arrW at HC
    clear h5 WO
    generalize (wordsL l).length = n at *
    generalize strOfNums (nthL (wordsL l) 0) = S0 at *
    generalize strOfNums (nthL (wordsL l) 1) = S1 at *
    generalize strOfNums (nthL (wordsL l) 2) = S2 at *
    generalize strOfNums (nthL (wordsL l) 3) = S3 at *
    generalize strOfNums (nthL (wordsL l) 4) = S4 at *
    have ZF : Hid (∀ W, Below (w.alloc (.cells zeroC 117)).heap.size (w.alloc (.cells zeroC 117)) W → (W.heap[w.heap.size]? = some (.cells zeroC 117) ∧ Below w.heap.size w W)) := fun W hb => ⟨blk_up B0.out hb, up_trans U0.out hb⟩
    unfold zeroC at ZF
    go_enter Tryd.func63, Tryd.ntmps63
    go_wp2_with fail
    refine (HC.out _).mono ?_
    rintro e w1 ⟨rfl, hb1⟩
    have zf := ZF.out (w1.alloc (.cells #[.string S0, .string S1, .string S2, .string S3, .string S4] 135)) (up_al hb1 _)
    have q := zf.1
    have Z := hid (zero_fin zf.1 zf.2 (.int .u64 0) (.int .u64 0) (.int .u64 0) (.int .u64 0) (.int .u64 0) (.bool false) (.bool false))
    have x0 := blk_cell q 0 _ rfl
    have x1 := blk_cell q 1 _ rfl
    have x2 := blk_cell q 2 _ rfl
    have x3 := blk_cell q 3 _ rfl
    have x4 := blk_cell q 4 _ rfl
    have x5 := blk_cell q 5 _ rfl
    have x6 := blk_cell q 6 _ rfl
    have f0 := blk_frozen q 0
    have f1 := blk_frozen q 1
    have f2 := blk_frozen q 2
    have f3 := blk_frozen q 3
    have f4 := blk_frozen q 4
    have f5 := blk_frozen q 5
    have f6 := blk_frozen q 6
    clear q zf hb1
    go_wp2_with fail
    refine bodyPost_ret (results_ruC rfl _ _ rfl Z.out.1) rfl ?_
    exact ⟨by rw [E.out]; rfl, Z.out.2⟩
  case pos =>
    obtain ⟨a, b, c, d, e, hw⟩ := five h5
    have E0 := parseR_five h4 hw
    rw [rule_same] at E0
    rw [hw] at HC WO
    have HC : Hid (∀ w', Calls Tryd.prog 77 #[.string (strOfNums l)] w' fun ee w'' => ee = .returned (.tuple #[.agg #[.string (strOfNums a), .string (strOfNums b), .string (strOfNums c), .string (strOfNums d), .string (strOfNums e)], .int .i64 5]) ∧ Below w'.heap.size w' w'') := HC
    have F0 : Hid (∀ w', Below w.heap.size w w' → Calls Tryd.prog 78 #[.int .i64 0, .string (strOfNums a)] w' fun ee w'' => ee = .returned (.tuple #[.int .u64 (fieldW 0 a : Nat), .bool (!(fieldW 0 a == 0))]) ∧ Below w'.heap.size w' w'') := fun w' hb => field_any 0 (by omega) a (WO a (by simp)).1 (by have := (WO a (by simp)).2; omega) w' (he.up hb)
    have F1 : Hid (∀ w', Below w.heap.size w w' → Calls Tryd.prog 78 #[.int .i64 1, .string (strOfNums b)] w' fun ee w'' => ee = .returned (.tuple #[.int .u64 (fieldW 1 b : Nat), .bool (!(fieldW 1 b == 0))]) ∧ Below w'.heap.size w' w'') := fun w' hb => field_any 1 (by omega) b (WO b (by simp)).1 (by have := (WO b (by simp)).2; omega) w' (he.up hb)
    have F2 : Hid (∀ w', Below w.heap.size w w' → Calls Tryd.prog 78 #[.int .i64 2, .string (strOfNums c)] w' fun ee w'' => ee = .returned (.tuple #[.int .u64 (fieldW 2 c : Nat), .bool (!(fieldW 2 c == 0))]) ∧ Below w'.heap.size w' w'') := fun w' hb => field_any 2 (by omega) c (WO c (by simp)).1 (by have := (WO c (by simp)).2; omega) w' (he.up hb)
    have F3 : Hid (∀ w', Below w.heap.size w w' → Calls Tryd.prog 78 #[.int .i64 3, .string (strOfNums d)] w' fun ee w'' => ee = .returned (.tuple #[.int .u64 (fieldW 3 d : Nat), .bool (!(fieldW 3 d == 0))]) ∧ Below w'.heap.size w' w'') := fun w' hb => field_any 3 (by omega) d (WO d (by simp)).1 (by have := (WO d (by simp)).2; omega) w' (he.up hb)
    have F4 : Hid (∀ w', Below w.heap.size w w' → Calls Tryd.prog 78 #[.int .i64 4, .string (strOfNums e)] w' fun ee w'' => ee = .returned (.tuple #[.int .u64 (fieldW 4 e : Nat), .bool (!(fieldW 4 e == 0))]) ∧ Below w'.heap.size w' w'') := fun w' hb => field_any 4 (by omega) e (WO e (by simp)).1 (by have := (WO e (by simp)).2; omega) w' (he.up hb)
    have sc := star_eq c (WO c (by simp)).1
    have se := star_eq e (WO e (by simp)).1
    have E := hid E0
    clear E0 WO hx he lenw hw h5
    generalize fieldW 0 a = s0 at *
    generalize fieldW 1 b = s1 at *
    generalize fieldW 2 c = s2 at *
    generalize fieldW 3 d = s3 at *
    generalize fieldW 4 e = s4 at *
    generalize decide (c = [42]) = cs at *
    generalize decide (e = [42]) = es at *
    have ix0 : ∀ w, (Instr.index 135 (.agg #[.string (strOfNums a), .string (strOfNums b), .string (strOfNums c), .string (strOfNums d), .string (strOfNums e)]) (.int .i64 0)).run Tryd.prog w = .ok (.string (strOfNums a)) w := fun w => at_str _ _ _ _ _ 0 _ rfl w
    have ix1 : ∀ w, (Instr.index 135 (.agg #[.string (strOfNums a), .string (strOfNums b), .string (strOfNums c), .string (strOfNums d), .string (strOfNums e)]) (.int .i64 1)).run Tryd.prog w = .ok (.string (strOfNums b)) w := fun w => at_str _ _ _ _ _ 1 _ rfl w
    have ix2 : ∀ w, (Instr.index 135 (.agg #[.string (strOfNums a), .string (strOfNums b), .string (strOfNums c), .string (strOfNums d), .string (strOfNums e)]) (.int .i64 2)).run Tryd.prog w = .ok (.string (strOfNums c)) w := fun w => at_str _ _ _ _ _ 2 _ rfl w
    have ix3 : ∀ w, (Instr.index 135 (.agg #[.string (strOfNums a), .string (strOfNums b), .string (strOfNums c), .string (strOfNums d), .string (strOfNums e)]) (.int .i64 3)).run Tryd.prog w = .ok (.string (strOfNums d)) w := fun w => at_str _ _ _ _ _ 3 _ rfl w
    have ix4 : ∀ w, (Instr.index 135 (.agg #[.string (strOfNums a), .string (strOfNums b), .string (strOfNums c), .string (strOfNums d), .string (strOfNums e)]) (.int .i64 4)).run Tryd.prog w = .ok (.string (strOfNums e)) w := fun w => at_str _ _ _ _ _ 4 _ rfl w
    have PS : Hid (∀ w1, Below (w.alloc (.cells zeroC 117)).heap.size (w.alloc (.cells zeroC 117)) w1 → PsW w w1.heap.size a b c d e 0 0 0 0 0 ((w1.alloc (.cells #[.string (strOfNums a), .string (strOfNums b), .string (strOfNums c), .string (strOfNums d), .string (strOfNums e)] 135)).alloc (.cells #[.int .u64 0, .int .u64 0, .int .u64 0, .int .u64 0, .int .u64 0] 138))) := fun w1 hb =>
      ⟨blk_al (blk_al (blk_up B0.out hb) _) _, blk_al (blk_nw _ _ rfl) _, blk_nw _ _ (by simp), blk_lt (blk_up B0.out hb), up_al (up_al (up_trans U0.out hb) _) _⟩
    unfold zeroC at PS U0
    go_enter Tryd.func63, Tryd.ntmps63
    go_wp2_with fail
    refine (HC.out _).mono ?_
    rintro ee w1 ⟨rfl, hb1⟩
    have P1 := hid (PS.out w1 hb1)
    have w0 := blk_cell P1.out.wds 0 _ rfl
    have w1' := blk_cell P1.out.wds 1 _ rfl
    have w2' := blk_cell P1.out.wds 2 _ rfl
    have w3' := blk_cell P1.out.wds 3 _ rfl
    have w4' := blk_cell P1.out.wds 4 _ rfl
    clear PS hb1 HC B0
    go_wp2_with fail
    clear w0 w1' w2' w3' w4'
    generalize hW : World.alloc (World.alloc w1 _) _ = W1 at *
    clear hW
    generalize hM : w1.heap.size = M at *
    clear hM
    refine wp_loop_rounds 6 ?_
    rw [rounds_succ]
    have UB := P1.out.below
    go_wp2_with fail
    refine (F0.out _ UB).mono ?_
    rintro ee v0 ⟨rfl, hb⟩
    have Q0 := hid (P1.out.up hb)
    clear UB hb P1
    by_cases z0 : s0 = 0
    · have R : Hid (parseR l = (ru0, 12)) := E.out.trans (if_pos (by simp [z0]))
      have t : (!(s0 == 0)) = false := by simp [z0]
      have q := Q0.out.rul
      have Z := hid (Q0.out.fin (.int .u64 0) (.int .u64 0) (.int .u64 0) (.int .u64 0) (.int .u64 0) (.bool false) (.bool false))
      have x0 := blk_cell q 0 _ rfl
      have x1 := blk_cell q 1 _ rfl
      have x2 := blk_cell q 2 _ rfl
      have x3 := blk_cell q 3 _ rfl
      have x4 := blk_cell q 4 _ rfl
      have x5 := blk_cell q 5 _ rfl
      have x6 := blk_cell q 6 _ rfl
      have f0 := blk_frozen q 0
      have f1 := blk_frozen q 1
      have f2 := blk_frozen q 2
      have f3 := blk_frozen q 3
      have f4 := blk_frozen q 4
      have f5 := blk_frozen q 5
      have f6 := blk_frozen q 6
      clear q
      rw [t]
      go_wp2_with fail
      refine bodyPost_ret (results_ruC rfl _ _ rfl Z.out.1) rfl ?_
      exact ⟨by rw [R.out]; rfl, Z.out.2⟩
    have t0 : (!(s0 == 0)) = true := by simpa using z0
    rw [t0]
    have q := Q0.out.set
    unfold rowC at q
    have y := blk_cell q 0 _ rfl
    have fy := blk_frozen q 0
    have P2 := hid (Q0.out.put0 s0)
    clear q t0 Q0
    go_wp2_with fail
    clear y fy
    generalize hW : World.setCell v0 _ _ = W2 at *
    clear hW
    rw [rounds_succ]
    have UB := P2.out.below
    go_wp2_with fail
    refine (F1.out _ UB).mono ?_
    rintro ee v1 ⟨rfl, hb⟩
    have Q1 := hid (P2.out.up hb)
    clear UB hb P2
    by_cases z1 : s1 = 0
    · have R : Hid (parseR l = (ru0, 12)) := E.out.trans (if_pos (by simp [z1]))
      have t : (!(s1 == 0)) = false := by simp [z1]
      have q := Q1.out.rul
      have Z := hid (Q1.out.fin (.int .u64 0) (.int .u64 0) (.int .u64 0) (.int .u64 0) (.int .u64 0) (.bool false) (.bool false))
      have x0 := blk_cell q 0 _ rfl
      have x1 := blk_cell q 1 _ rfl
      have x2 := blk_cell q 2 _ rfl
      have x3 := blk_cell q 3 _ rfl
      have x4 := blk_cell q 4 _ rfl
      have x5 := blk_cell q 5 _ rfl
      have x6 := blk_cell q 6 _ rfl
      have f0 := blk_frozen q 0
      have f1 := blk_frozen q 1
      have f2 := blk_frozen q 2
      have f3 := blk_frozen q 3
      have f4 := blk_frozen q 4
      have f5 := blk_frozen q 5
      have f6 := blk_frozen q 6
      clear q
      rw [t]
      go_wp2_with fail
      refine bodyPost_ret (results_ruC rfl _ _ rfl Z.out.1) rfl ?_
      exact ⟨by rw [R.out]; rfl, Z.out.2⟩
    have t1 : (!(s1 == 0)) = true := by simpa using z1
    rw [t1]
    have q := Q1.out.set
    unfold rowC at q
    have y := blk_cell q 1 _ rfl
    have fy := blk_frozen q 1
    have P3 := hid (Q1.out.put1 s1)
    clear q t1 Q1
    go_wp2_with fail
    clear y fy
    generalize hW : World.setCell v1 _ _ = W3 at *
    clear hW
    rw [rounds_succ]
    have UB := P3.out.below
    go_wp2_with fail
    refine (F2.out _ UB).mono ?_
    rintro ee v2 ⟨rfl, hb⟩
    have Q2 := hid (P3.out.up hb)
    clear UB hb P3
    by_cases z2 : s2 = 0
    · have R : Hid (parseR l = (ru0, 12)) := E.out.trans (if_pos (by simp [z2]))
      have t : (!(s2 == 0)) = false := by simp [z2]
      have q := Q2.out.rul
      have Z := hid (Q2.out.fin (.int .u64 0) (.int .u64 0) (.int .u64 0) (.int .u64 0) (.int .u64 0) (.bool false) (.bool false))
      have x0 := blk_cell q 0 _ rfl
      have x1 := blk_cell q 1 _ rfl
      have x2 := blk_cell q 2 _ rfl
      have x3 := blk_cell q 3 _ rfl
      have x4 := blk_cell q 4 _ rfl
      have x5 := blk_cell q 5 _ rfl
      have x6 := blk_cell q 6 _ rfl
      have f0 := blk_frozen q 0
      have f1 := blk_frozen q 1
      have f2 := blk_frozen q 2
      have f3 := blk_frozen q 3
      have f4 := blk_frozen q 4
      have f5 := blk_frozen q 5
      have f6 := blk_frozen q 6
      clear q
      rw [t]
      go_wp2_with fail
      refine bodyPost_ret (results_ruC rfl _ _ rfl Z.out.1) rfl ?_
      exact ⟨by rw [R.out]; rfl, Z.out.2⟩
    have t2 : (!(s2 == 0)) = true := by simpa using z2
    rw [t2]
    have q := Q2.out.set
    unfold rowC at q
    have y := blk_cell q 2 _ rfl
    have fy := blk_frozen q 2
    have P4 := hid (Q2.out.put2 s2)
    clear q t2 Q2
    go_wp2_with fail
    clear y fy
    generalize hW : World.setCell v2 _ _ = W4 at *
    clear hW
    rw [rounds_succ]
    have UB := P4.out.below
    go_wp2_with fail
    refine (F3.out _ UB).mono ?_
    rintro ee v3 ⟨rfl, hb⟩
    have Q3 := hid (P4.out.up hb)
    clear UB hb P4
    by_cases z3 : s3 = 0
    · have R : Hid (parseR l = (ru0, 12)) := E.out.trans (if_pos (by simp [z3]))
      have t : (!(s3 == 0)) = false := by simp [z3]
      have q := Q3.out.rul
      have Z := hid (Q3.out.fin (.int .u64 0) (.int .u64 0) (.int .u64 0) (.int .u64 0) (.int .u64 0) (.bool false) (.bool false))
      have x0 := blk_cell q 0 _ rfl
      have x1 := blk_cell q 1 _ rfl
      have x2 := blk_cell q 2 _ rfl
      have x3 := blk_cell q 3 _ rfl
      have x4 := blk_cell q 4 _ rfl
      have x5 := blk_cell q 5 _ rfl
      have x6 := blk_cell q 6 _ rfl
      have f0 := blk_frozen q 0
      have f1 := blk_frozen q 1
      have f2 := blk_frozen q 2
      have f3 := blk_frozen q 3
      have f4 := blk_frozen q 4
      have f5 := blk_frozen q 5
      have f6 := blk_frozen q 6
      clear q
      rw [t]
      go_wp2_with fail
      refine bodyPost_ret (results_ruC rfl _ _ rfl Z.out.1) rfl ?_
      exact ⟨by rw [R.out]; rfl, Z.out.2⟩
    have t3 : (!(s3 == 0)) = true := by simpa using z3
    rw [t3]
    have q := Q3.out.set
    unfold rowC at q
    have y := blk_cell q 3 _ rfl
    have fy := blk_frozen q 3
    have P5 := hid (Q3.out.put3 s3)
    clear q t3 Q3
    go_wp2_with fail
    clear y fy
    generalize hW : World.setCell v3 _ _ = W5 at *
    clear hW
    rw [rounds_succ]
    have UB := P5.out.below
    go_wp2_with fail
    refine (F4.out _ UB).mono ?_
    rintro ee v4 ⟨rfl, hb⟩
    have Q4 := hid (P5.out.up hb)
    clear UB hb P5
    by_cases z4 : s4 = 0
    · have R : Hid (parseR l = (ru0, 12)) := E.out.trans (if_pos (by simp [z4]))
      have t : (!(s4 == 0)) = false := by simp [z4]
      have q := Q4.out.rul
      have Z := hid (Q4.out.fin (.int .u64 0) (.int .u64 0) (.int .u64 0) (.int .u64 0) (.int .u64 0) (.bool false) (.bool false))
      have x0 := blk_cell q 0 _ rfl
      have x1 := blk_cell q 1 _ rfl
      have x2 := blk_cell q 2 _ rfl
      have x3 := blk_cell q 3 _ rfl
      have x4 := blk_cell q 4 _ rfl
      have x5 := blk_cell q 5 _ rfl
      have x6 := blk_cell q 6 _ rfl
      have f0 := blk_frozen q 0
      have f1 := blk_frozen q 1
      have f2 := blk_frozen q 2
      have f3 := blk_frozen q 3
      have f4 := blk_frozen q 4
      have f5 := blk_frozen q 5
      have f6 := blk_frozen q 6
      clear q
      rw [t]
      go_wp2_with fail
      refine bodyPost_ret (results_ruC rfl _ _ rfl Z.out.1) rfl ?_
      exact ⟨by rw [R.out]; rfl, Z.out.2⟩
    have t4 : (!(s4 == 0)) = true := by simpa using z4
    rw [t4]
    have q := Q4.out.set
    unfold rowC at q
    have y := blk_cell q 4 _ rfl
    have fy := blk_frozen q 4
    have P6 := hid (Q4.out.put4 s4)
    clear q t4 Q4
    go_wp2_with fail
    clear y fy
    generalize hW : World.setCell v4 _ _ = W6 at *
    clear hW
    rw [rounds_succ]
    have R : Hid (parseR l = (⟨s0, s1, s2, s3, s4, cs, es⟩, 0)) := E.out.trans (if_neg (by simp [z0, z1, z2, z3, z4]))
    have q := P6.out.rul
    have u := P6.out.set
    have v := P6.out.wds
    unfold rowC at u
    have Z := hid (P6.out.fin (.int .u64 (s0 : Int)) (.int .u64 (s1 : Int)) (.int .u64 (s2 : Int)) (.int .u64 (s3 : Int)) (.int .u64 (s4 : Int)) (.bool cs) (.bool es))
    have x0 := blk_cell q 0 _ rfl
    have x1 := blk_cell q 1 _ rfl
    have x2 := blk_cell q 2 _ rfl
    have x3 := blk_cell q 3 _ rfl
    have x4 := blk_cell q 4 _ rfl
    have x5 := blk_cell q 5 _ rfl
    have x6 := blk_cell q 6 _ rfl
    have f0 := blk_frozen q 0
    have f1 := blk_frozen q 1
    have f2 := blk_frozen q 2
    have f3 := blk_frozen q 3
    have f4 := blk_frozen q 4
    have f5 := blk_frozen q 5
    have f6 := blk_frozen q 6
    have u0 := blk_cell u 0 _ rfl
    have u1 := blk_cell u 1 _ rfl
    have u2 := blk_cell u 2 _ rfl
    have u3 := blk_cell u 3 _ rfl
    have u4 := blk_cell u 4 _ rfl
    have v2 := blk_cell v 2 _ rfl
    have v4 := blk_cell v 4 _ rfl
    clear q u v P6
    go_wp2_with fail
    refine bodyPost_ret (results_ruC rfl _ _ rfl Z.out.1) rfl ?_
    exact ⟨by rw [R.out]; rfl, Z.out.2⟩
end Go.Proofs.YtpjmieiajhhbaaaDoor
