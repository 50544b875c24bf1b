/- What becomes of a job: the document's free, again, Lease, Fail, Finish. -/
import Derived.Test.YtpjmieiajhhbaaaDoorJChk
namespace Go.Proofs.YtpjmieiajhhbaaaDoor
open Go.RowKit
set_option linter.unusedVariables false
set_option linter.unusedSimpArgs false

theorem set10_blk {w : World} {N : Nat} {t : TypeId} {a0 a1 a2 a3 a4 a5 a6 a7 a8 a9 : Value} (h : w.heap[N]? = some (.cells #[a0, a1, a2, a3, a4, a5, a6, a7, a8, a9] t)) (b0 b1 b2 b3 b4 b5 b6 b7 b8 b9 : Value) : ((((((((((w.setCell ⟨N, 0, none⟩ b0).setCell ⟨N, 1, none⟩ b1).setCell ⟨N, 2, none⟩ b2).setCell ⟨N, 3, none⟩ b3).setCell ⟨N, 4, none⟩ b4).setCell ⟨N, 5, none⟩ b5).setCell ⟨N, 6, none⟩ b6).setCell ⟨N, 7, none⟩ b7).setCell ⟨N, 8, none⟩ b8).setCell ⟨N, 9, none⟩ b9).heap[N]? = some (.cells #[b0, b1, b2, b3, b4, b5, b6, b7, b8, b9] t) := by
  have := blk_set (blk_set (blk_set (blk_set (blk_set (blk_set (blk_set (blk_set (blk_set (blk_set h 0 b0) 1 b1) 2 b2) 3 b3) 4 b4) 5 b5) 6 b6) 7 b7) 8 b8) 9 b9
  simpa only [List.setIfInBounds_toArray, List.set_cons_zero, List.set_cons_succ] using this
theorem set10_grown (w : World) (N : Nat) (b0 b1 b2 b3 b4 b5 b6 b7 b8 b9 : Value) : w.grownBy ((((((((((w.setCell ⟨N, 0, none⟩ b0).setCell ⟨N, 1, none⟩ b1).setCell ⟨N, 2, none⟩ b2).setCell ⟨N, 3, none⟩ b3).setCell ⟨N, 4, none⟩ b4).setCell ⟨N, 5, none⟩ b5).setCell ⟨N, 6, none⟩ b6).setCell ⟨N, 7, none⟩ b7).setCell ⟨N, 8, none⟩ b8).setCell ⟨N, 9, none⟩ b9) (some N) :=
  grown_trans (grown_trans (grown_trans (grown_trans (grown_trans (grown_trans (grown_trans (grown_trans (grown_trans (grown_set w ⟨N, 0, none⟩ b0) (grown_set _ ⟨N, 1, none⟩ b1)) (grown_set _ ⟨N, 2, none⟩ b2)) (grown_set _ ⟨N, 3, none⟩ b3)) (grown_set _ ⟨N, 4, none⟩ b4)) (grown_set _ ⟨N, 5, none⟩ b5)) (grown_set _ ⟨N, 6, none⟩ b6)) (grown_set _ ⟨N, 7, none⟩ b7)) (grown_set _ ⟨N, 8, none⟩ b8)) (grown_set _ ⟨N, 9, none⟩ b9)
theorem set5j_blk {w : World} {N : Nat} {t : TypeId} {a0 a1 a2 a3 a4 a5 a6 a7 a8 a9 : Value} (h : w.heap[N]? = some (.cells #[a0, a1, a2, a3, a4, a5, a6, a7, a8, a9] t)) (s d k l u : Value) : (((((w.setCell ⟨N, 4, none⟩ s).setCell ⟨N, 5, none⟩ d).setCell ⟨N, 7, none⟩ k).setCell ⟨N, 8, none⟩ l).setCell ⟨N, 9, none⟩ u).heap[N]? = some (.cells #[a0, a1, a2, a3, s, d, a6, k, l, u] t) := by
  have := blk_set (blk_set (blk_set (blk_set (blk_set h 4 s) 5 d) 7 k) 8 l) 9 u
  simpa only [List.setIfInBounds_toArray, List.set_cons_zero, List.set_cons_succ] using this
theorem set5j_grown (w : World) (N : Nat) (s d k l u : Value) : w.grownBy (((((w.setCell ⟨N, 4, none⟩ s).setCell ⟨N, 5, none⟩ d).setCell ⟨N, 7, none⟩ k).setCell ⟨N, 8, none⟩ l).setCell ⟨N, 9, none⟩ u) (some N) :=
  grown_trans (grown_trans (grown_trans (grown_trans (grown_set w ⟨N, 4, none⟩ s) (grown_set _ ⟨N, 5, none⟩ d)) (grown_set _ ⟨N, 7, none⟩ k)) (grown_set _ ⟨N, 8, none⟩ l)) (grown_set _ ⟨N, 9, none⟩ u)
theorem results_job2 {fn : Func} {q r : Nat} (h : fn.results = #[.cell q 23, .tmp r]) (tmps : Array Value) (w : World) {N : Nat} {a0 a1 a2 a3 a4 a5 a6 a7 a8 a9 : Value} (ht : tmps.getD q undef = .pointer (some ⟨N, 0, none⟩))
    (hc : w.heap[N]? = some (.cells #[a0, a1, a2, a3, a4, a5, a6, a7, a8, a9] 23)) : (results fn tmps).run Tryd.prog w = .ok (.tuple #[.agg #[a0, a1, a2, a3, a4, a5, a6, a7, a8, a9], tmps.getD r undef]) w := by
  have c0 := blk_cell hc 0 a0 rfl
  have c1 := blk_cell hc 1 a1 rfl
  have c2 := blk_cell hc 2 a2 rfl
  have c3 := blk_cell hc 3 a3 rfl
  have c4 := blk_cell hc 4 a4 rfl
  have c5 := blk_cell hc 5 a5 rfl
  have c6 := blk_cell hc 6 a6 rfl
  have c7 := blk_cell hc 7 a7 rfl
  have c8 := blk_cell hc 8 a8 rfl
  have c9 := blk_cell hc 9 a9 rfl
  have ht' : tmps[q]?.getD undef = .pointer (some ⟨N, 0, none⟩) := by simpa using ht
  simp only [results, h]
  simp [ht', go_sem, c0, c1, c2, c3, c4, c5, c6, c7, c8, c9]
theorem results_job3 {fn : Func} {q r s : Nat} (h : fn.results = #[.cell q 23, .tmp r, .tmp s]) (tmps : Array Value) (w : World) {N : Nat} {a0 a1 a2 a3 a4 a5 a6 a7 a8 a9 : Value} (ht : tmps.getD q undef = .pointer (some ⟨N, 0, none⟩))
    (hc : w.heap[N]? = some (.cells #[a0, a1, a2, a3, a4, a5, a6, a7, a8, a9] 23)) : (results fn tmps).run Tryd.prog w = .ok (.tuple #[.agg #[a0, a1, a2, a3, a4, a5, a6, a7, a8, a9], tmps.getD r undef, tmps.getD s undef]) w := by
  have c0 := blk_cell hc 0 a0 rfl
  have c1 := blk_cell hc 1 a1 rfl
  have c2 := blk_cell hc 2 a2 rfl
  have c3 := blk_cell hc 3 a3 rfl
  have c4 := blk_cell hc 4 a4 rfl
  have c5 := blk_cell hc 5 a5 rfl
  have c6 := blk_cell hc 6 a6 rfl
  have c7 := blk_cell hc 7 a7 rfl
  have c8 := blk_cell hc 8 a8 rfl
  have c9 := blk_cell hc 9 a9 rfl
  have ht' : tmps[q]?.getD undef = .pointer (some ⟨N, 0, none⟩) := by simpa using ht
  simp only [results, h]
  simp [ht', go_sem, c0, c1, c2, c3, c4, c5, c6, c7, c8, c9]
def freeP (j : Jb) (s d : Int) : Jb := { j with st := s, du := d, wk := 0, tk := 0, un := 0 }
set_option maxHeartbeats 1000000 in
set_option maxRecDepth 20000 in
theorem free_any (j : Jb) (s d : Int) (w : World) : Calls Tryd.prog 46 #[jobV j, .int .i64 s, .int .i64 d] w fun e w' => e = .returned (jobV (freeP j s d)) ∧ Below w.heap.size w w' := by
  unfold jobV freeP
  go_enter Tryd.func46, Tryd.ntmps46
  go_wp2
  go_returns
  exact ⟨rfl, up_al (up_alloc w _) _⟩
/-- When a rule comes next, as a function. -/
noncomputable def nextP (r : Ru) (t : Int) : Int × Bool × Int := by
  classical
  exact if h : ∃ q : Int × Bool × Int, NextR r t q.1 q.2.1 q.2.2 then Classical.choose h else (0, false, 0)
theorem nextP_is {r : Ru} {t a : Int} {is : Bool} {c : Int} (h : NextR r t a is c) : nextP r t = (a, is, c) := by
  have h0 : ∃ q : Int × Bool × Int, NextR r t q.1 q.2.1 q.2.2 := ⟨(a, is, c), h⟩
  have e : nextP r t = Classical.choose h0 := dif_pos h0
  obtain ⟨e1, e2, e3⟩ := (Classical.choose_spec h0).one h
  rw [e]
  exact Prod.ext e1 (Prod.ext e2 e3)
theorem nextF_any (r : Ru) (hr : r.ok) (t : Int) (w : World) : Calls Tryd.prog 27 #[ruV r, .int .i64 t] w fun e w' => e = .returned (.tuple #[.int .i64 (nextP r t).1, .bool (nextP r t).2.1, .int .i64 (nextP r t).2.2]) ∧ Below w.heap.size w w' := by
  refine (nextR_any r hr t w).mono ?_
  rintro e w' ⟨⟨a, is, c, rfl, h⟩, hb⟩
  rw [nextP_is h]
  exact ⟨rfl, hb⟩
noncomputable def againP (j : Jb) (now : Int) : Jb × Bool := if j.ru = [] then (j, false) else if (nextP (parseR j.ru).1 now).2.1 then (freeP { j with tr := 0 } 1 (nextP (parseR j.ru).1 now).1, true) else (j, false)
theorem parse_ok (l : List Int) : (parseR l).1.ok := by
  have z : ru0.ok := by
    intro s hs
    simp only [Ru.sets, ru0, List.mem_cons, List.not_mem_nil, or_false] at hs
    omega
  have R : ∀ a b c d e, (ruleOf a b c d e).1.ok := by
    intro a b c d e
    unfold ruleOf
    generalize (if e = [42] then 127 else fieldN e 0 7) = k
    by_cases h : fieldN a 0 59 = 0 ∨ fieldN b 0 23 = 0 ∨ fieldN c 1 31 = 0 ∨ fieldN d 1 12 = 0 ∨ k = 0
    · rw [if_pos h]
      exact z
    · rw [if_neg h]
      intro s hs
      simp only [Ru.sets, List.mem_cons, List.not_mem_nil, or_false] at hs
      have wk : ∀ k, weekN k < 18446744073709551616 := by
        intro k
        unfold weekN
        refine Nat.or_lt_two_pow (n := 64) ?_ ?_
        · exact Nat.lt_of_le_of_lt Nat.and_le_right (by decide)
        · exact Nat.lt_of_le_of_lt Nat.and_le_right (by decide)
      rcases hs with rfl | rfl | rfl | rfl | rfl
      · exact fieldN_lt _ _ _
      · exact fieldN_lt _ _ _
      · exact fieldN_lt _ _ _
      · exact fieldN_lt _ _ _
      · exact wk _
  unfold parseR
  split
  · exact z
  · split
    · exact R _ _ _ _ _
    · exact z

set_option maxHeartbeats 2000000 in
set_option maxRecDepth 20000 in
theorem again_any (j : Jb) (hj : TxtOk j.ru) (now : Int) (w : World) : Calls Tryd.prog 47 #[jobV j, .int .i64 now] w fun e w' => e = .returned (.tuple #[jobV (againP j now).1, .bool (againP j now).2]) ∧ Below w.heap.size w w' := by
  have zr := empty_eq j.ru hj.1
  have HP : Hid (∀ w', Calls Tryd.prog 26 #[.string (strOfNums j.ru)] w' fun e w'' => e = .returned (.tuple #[ruV (parseR j.ru).1, .int .i64 (parseR j.ru).2]) ∧ Below w'.heap.size w' w'') := fun w' => parseR_any j.ru hj.1 hj.2 w'
  have HN := hid (nextF_any (parseR j.ru).1 (parse_ok j.ru) now)
  have HF : Hid (∀ w', Calls Tryd.prog 46 #[jobV { j with tr := 0 }, .int .i64 1, .int .i64 (nextP (parseR j.ru).1 now).1] w' fun e w'' => e = .returned (jobV (freeP { j with tr := 0 } 1 (nextP (parseR j.ru).1 now).1)) ∧ Below w'.heap.size w' w'') := fun w' => free_any _ _ _ w'
  have AP : Hid (againP j now = if j.ru = [] then (j, false) else if (nextP (parseR j.ru).1 now).2.1 then (freeP { j with tr := 0 } 1 (nextP (parseR j.ru).1 now).1, true) else (j, false)) := rfl
  have b0 := blk_new w (.cells (jobC j) 23)
  have U0 := hid (up_al (up_alloc w (.cells (jobC j) 23)) (.cells (jobC jb0) 23))
  have B0 := hid (blk_up b0 (up_alloc _ (.cells (jobC jb0) 23)))
  have R0 : Hid (((w.alloc (.cells (jobC j) 23)).alloc (.cells (jobC jb0) 23)).heap[w.heap.size + 1]? = some (.cells (jobC jb0) 23)) := by
    have h : (w.alloc (.cells (jobC j) 23)).heap.size = w.heap.size + 1 := by simp
    rw [← h]
    exact hid (blk_new _ _)
  have RJ : Hid (∀ k : Jb, jobV k = .agg (jobC k)) := fun _ => rfl
  unfold jobC jb0 at U0 B0 R0
  clear b0
  unfold jobV at HF
  dsimp only at HF
  rw [jobV_form]
  unfold jobC
  obtain ⟨ap, hap⟩ : ∃ ap, ap = againP j now := ⟨_, rfl⟩
  rw [← hap] at AP ⊢
  clear hap
  obtain ⟨z, hz⟩ : ∃ z, z = decide (j.ru = []) := ⟨_, rfl⟩
  rw [← hz] at zr
  have HZ := hid hz
  clear hz
  cases z
  · have AP2 : Hid (ap = if (nextP (parseR j.ru).1 now).2.1 then (freeP { j with tr := 0 } 1 (nextP (parseR j.ru).1 now).1, true) else (j, false)) := AP.out.trans (if_neg (of_decide_eq_false HZ.out.symm))
    clear AP HZ
    generalize (nextP (parseR j.ru).1 now).1 = nt at *
    generalize (nextP (parseR j.ru).1 now).2.1 = ni at *
    generalize (nextP (parseR j.ru).1 now).2.2 = nc at *
    generalize (parseR j.ru).1 = p1 at *
    generalize (parseR j.ru).2 = p2 at *
    rw [ruV_form] at HP HN
    go_enter Tryd.func47, Tryd.ntmps47
    go_wp2_with fail
    refine (HP.out _).mono ?_
    rintro e w2 ⟨rfl, hb2⟩
    have B2 := hid (blk_up (blk_up B0.out hb2) (up_alloc w2 (.cells #[.int .u64 (p1.mi : Int), .int .u64 (p1.ho : Int), .int .u64 (p1.da : Int), .int .u64 (p1.mo : Int), .int .u64 (p1.we : Int), .bool p1.ad, .bool p1.aw] 58)))
    have R2 := hid (blk_up (blk_up R0.out hb2) (up_alloc w2 (.cells #[.int .u64 (p1.mi : Int), .int .u64 (p1.ho : Int), .int .u64 (p1.da : Int), .int .u64 (p1.mo : Int), .int .u64 (p1.we : Int), .bool p1.ad, .bool p1.aw] 58)))
    have U2 := hid (up_al (up_trans U0.out hb2) (.cells #[.int .u64 (p1.mi : Int), .int .u64 (p1.ho : Int), .int .u64 (p1.da : Int), .int .u64 (p1.mo : Int), .int .u64 (p1.we : Int), .bool p1.ad, .bool p1.aw] 58))
    clear hb2 B0 R0 U0
    go_wp2_with fail
    refine (HN.out _).mono ?_
    rintro e w3 ⟨rfl, hb3⟩
    have B3 := hid (blk_up B2.out hb3)
    have R3 := hid (blk_up R2.out hb3)
    have U3 := hid (up_trans U2.out hb3)
    clear hb3 B2 R2 U2
    cases ni
    · have E : Hid (ap = (j, false)) := AP2.out

      have x0 := blk_cell B3.out 0 _ rfl
      have x1 := blk_cell B3.out 1 _ rfl
      have x2 := blk_cell B3.out 2 _ rfl
      have x3 := blk_cell B3.out 3 _ rfl
      have x4 := blk_cell B3.out 4 _ rfl
      have x5 := blk_cell B3.out 5 _ rfl
      have x6 := blk_cell B3.out 6 _ rfl
      have x7 := blk_cell B3.out 7 _ rfl
      have x8 := blk_cell B3.out 8 _ rfl
      have x9 := blk_cell B3.out 9 _ rfl
      have f0 := blk_frozen R3.out 0
      have f1 := blk_frozen R3.out 1
      have f2 := blk_frozen R3.out 2
      have f3 := blk_frozen R3.out 3
      have f4 := blk_frozen R3.out 4
      have f5 := blk_frozen R3.out 5
      have f6 := blk_frozen R3.out 6
      have f7 := blk_frozen R3.out 7
      have f8 := blk_frozen R3.out 8
      have f9 := blk_frozen R3.out 9
      have y0 := blk_cell R3.out 0 _ rfl
      have y1 := blk_cell R3.out 1 _ rfl
      have y2 := blk_cell R3.out 2 _ rfl
      have y3 := blk_cell R3.out 3 _ rfl
      have y4 := blk_cell R3.out 4 _ rfl
      have y5 := blk_cell R3.out 5 _ rfl
      have y6 := blk_cell R3.out 6 _ rfl
      have y7 := blk_cell R3.out 7 _ rfl
      have y8 := blk_cell R3.out 8 _ rfl
      have y9 := blk_cell R3.out 9 _ rfl
      have FB := hid (set10_blk R3.out (.int .i64 j.id) (.string (strOfNums j.na)) (.string (strOfNums j.ru)) (.string (strOfNums j.pa)) (.int .i64 j.st) (.int .i64 j.du) (.int .i64 j.tr) (.int .i64 j.wk) (.int .i64 j.tk) (.int .i64 j.un))
      have FG := hid (set10_grown w3 (w.heap.size + 1) (.int .i64 j.id) (.string (strOfNums j.na)) (.string (strOfNums j.ru)) (.string (strOfNums j.pa)) (.int .i64 j.st) (.int .i64 j.du) (.int .i64 j.tr) (.int .i64 j.wk) (.int .i64 j.tk) (.int .i64 j.un))
      clear HF HP HN
      go_wp2_with fail
      refine bodyPost_ret (results_job2 rfl _ _ rfl FB.out) rfl ?_
      exact ⟨by rw [E.out]; rfl, U3.out.grown FG.out U3.out.size (fun k hk => by simp at hk; omega)⟩
    · have E : Hid (ap = (freeP { j with tr := 0 } 1 nt, true)) := AP2.out
      have f6 := blk_frozen B3.out 6
      have x6 := blk_cell B3.out 6 _ rfl
      have B4 := hid (blk_set B3.out 6 (.int .i64 0))
      have G4 := hid (grown_set w3 ⟨w.heap.size, 6, none⟩ (.int .i64 0))
      go_upto_region 8 with fail
      generalize hW5 : World.setCell _ _ _ = W5
      rw [hW5] at B4 G4
      have U5 : Hid (Below w.heap.size w W5) := U3.out.grown G4.out U3.out.size (fun k hk => by simp at hk; omega)
      have R5 := hid (blk_grown R3.out G4.out (by simp))
      clear hW5 f6 x6 B3 R3 U3
      have b5 := B4.out
      simp only [List.setIfInBounds_toArray, List.set_cons_zero, List.set_cons_succ] at b5
      have x0 := blk_cell b5 0 _ rfl
      have x1 := blk_cell b5 1 _ rfl
      have x2 := blk_cell b5 2 _ rfl
      have x3 := blk_cell b5 3 _ rfl
      have x4 := blk_cell b5 4 _ rfl
      have x5 := blk_cell b5 5 _ rfl
      have x6 := blk_cell b5 6 _ rfl
      have x7 := blk_cell b5 7 _ rfl
      have x8 := blk_cell b5 8 _ rfl
      have x9 := blk_cell b5 9 _ rfl
      clear b5
      go_wp2_with fail
      refine (HF.out _).mono ?_
      rintro e w6 ⟨rfl, hb6⟩
      have R6 := hid (blk_up R5.out hb6)
      have U6 := hid (up_trans U5.out hb6)
      clear hb6
      clear x0 x1 x2 x3 x4 x5 x6 x7 x8 x9
      have f0 := blk_frozen R6.out 0
      have f1 := blk_frozen R6.out 1
      have f2 := blk_frozen R6.out 2
      have f3 := blk_frozen R6.out 3
      have f4 := blk_frozen R6.out 4
      have f5 := blk_frozen R6.out 5
      have f6 := blk_frozen R6.out 6
      have f7 := blk_frozen R6.out 7
      have f8 := blk_frozen R6.out 8
      have f9 := blk_frozen R6.out 9
      have x0 := blk_cell R6.out 0 _ rfl
      have x1 := blk_cell R6.out 1 _ rfl
      have x2 := blk_cell R6.out 2 _ rfl
      have x3 := blk_cell R6.out 3 _ rfl
      have x4 := blk_cell R6.out 4 _ rfl
      have x5 := blk_cell R6.out 5 _ rfl
      have x6 := blk_cell R6.out 6 _ rfl
      have x7 := blk_cell R6.out 7 _ rfl
      have x8 := blk_cell R6.out 8 _ rfl
      have x9 := blk_cell R6.out 9 _ rfl
      have FB := hid (set10_blk R6.out (.int .i64 j.id) (.string (strOfNums j.na)) (.string (strOfNums j.ru)) (.string (strOfNums j.pa)) (.int .i64 1) (.int .i64 nt) (.int .i64 0) (.int .i64 0) (.int .i64 0) (.int .i64 0))
      have FG := hid (set10_grown w6 (w.heap.size + 1) (.int .i64 j.id) (.string (strOfNums j.na)) (.string (strOfNums j.ru)) (.string (strOfNums j.pa)) (.int .i64 1) (.int .i64 nt) (.int .i64 0) (.int .i64 0) (.int .i64 0) (.int .i64 0))
      unfold freeP
      dsimp only
      go_wp2_with fail
      refine bodyPost_ret (results_job2 rfl _ _ rfl FB.out) rfl ?_
      exact ⟨by rw [E.out]; rfl, U6.out.grown FG.out U6.out.size (fun k hk => by simp at hk; omega)⟩
  · have E : Hid (ap = (j, false)) := AP.out.trans (if_pos (of_decide_eq_true HZ.out.symm))
    clear AP HZ HF HN HP
    go_enter Tryd.func47, Tryd.ntmps47
    go_wp2_with fail
    go_returns
    exact ⟨by rw [E.out]; rfl, up_al (up_alloc w _) _⟩
end Go.Proofs.YtpjmieiajhhbaaaDoor
