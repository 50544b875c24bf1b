/- Texts of layers 1 to 13, in this order. -/
import Derived.Test.YthiegmhplnbdlaaGreatG21
import Derived.Test.YthiegmhplnbdlaaGreatG12
import Derived.Test.YthiegmhplnbdlaaGreatG09
import Derived.Test.YthiegmhplnbdlaaGreatG25
import Derived.Test.YthiegmhplnbdlaaGreatG08

namespace Go.Proofs.YthiegmhplnbdlaaGreat
open Go.RowKit SumPlain
set_option linter.unusedVariables false
set_option linter.unusedSimpArgs false
theorem results_num {fn : Func} {q r s : Nat} (h : fn.results = #[.cell q 189, .tmp r, .tmp s]) (tmps : Array Value) (w : World) {N : Nat} {a b c d : Value} (ht : tmps.getD q undef = .pointer (some ⟨N, 0, none⟩))
    (hc : w.heap[N]? = some (.cells #[a, b, c, d] 189)) : (results fn tmps).run Tryz.prog w = .ok (.tuple #[.agg #[a, b, c, d], tmps.getD r undef, tmps.getD s undef]) w := by
  have c0 := blk_cell hc 0 a rfl
  have c1 := blk_cell hc 1 b rfl
  have c2 := blk_cell hc 2 c rfl
  have c3 := blk_cell hc 3 d rfl
  have ht' : tmps[q]?.getD undef = .pointer (some ⟨N, 0, none⟩) := by simpa using ht
  simp only [results, h]
  simp [ht', go_sem, c0, c1, c2, c3]
def stepN (top : Int) (l : List Int) (p : Nat) : Option (Nat × Nat) :=
  if (getOf (l.drop p)).2.2 = 0 ∧ ¬ top < (getOf (l.drop p)).1 then some ((getOf (l.drop p)).1.toNat, p + (getOf (l.drop p)).2.1.toNat) else none
def numsP (h : Int) (l : List Int) : Option (Nat × Nat × Nat × Nat × Nat) :=
  match stepN h l 0 with
  | none => none
  | some (n, p1) => match stepN 96 l p1 with
    | none => none
    | some (k, p2) => match stepN 1099511627776 l p2 with
      | none => none
      | some (s, p3) => match stepN 512 l p3 with
        | none => none
        | some (v, p4) => some (n, k, s, v, p4)
def retN : Option (Nat × Nat × Nat × Nat × Nat) → Value
  | none => .tuple #[.agg #[.int .i64 0, .int .i64 0, .int .i64 0, .int .i64 0], .int .i64 0, .bool false]
  | some (n, k, s, v, p) => .tuple #[.agg #[.int .i64 n, .int .i64 k, .int .i64 s, .int .i64 v], .int .i64 p, .bool true]
theorem octs_from {W : World} {a : Option Addr} {c : Nat} {l : List Int} (h : Octs W (.slice a l.length c) l) (p : Nat) (hp : p ≤ l.length) : Octs W (.slice (if c = p then a else a.map (fun x => x.add p)) (l.length - p) (c - p)) (l.drop p) := by
  rcases h.form with ⟨rfl, rfl, rfl⟩ | ⟨x, rfl, rfl⟩ | ⟨b, off, rfl, hne, hc, hm⟩
  · simp at hp
    subst hp
    exact ⟨by simp, .inl ⟨by simp, _, _, rfl, fun _ => rfl⟩⟩
  · simp at hp
    subst hp
    refine ⟨by simp, .inl ⟨by simp, _, _, rfl, fun e => ?_⟩⟩
    split at e <;> simp at e
  · by_cases hcp : c = p
    · rw [if_pos hcp, List.drop_eq_nil_of_le (by omega), show l.length - p = 0 by omega]
      exact ⟨by simp, .inl ⟨rfl, _, _, rfl, fun e => by cases e⟩⟩
    · rw [if_neg hcp]
      simp only [Option.map_some, Addr.add_lit]
      exact h.back rfl p hp hc
def GAt (l : List Int) (vs : Value) (p : Nat) (W : World) (top : Int) (v j : Nat) (e : Int) : Prop :=
  (∀ W', Below W.heap.size W W' → Calls Tryz.prog 84 #[vs] W' fun x w' => x = .returned (.tuple #[.int .u64 v, .int .i64 j, .int .i64 e]) ∧ ∃ d, w' = W'.drewN d) ∧ v ≤ 18446744073709551615 ∧
  ((e ≠ 0 ∧ stepN top l p = none) ∨ (e = 0 ∧ top < (v : Int) ∧ stepN top l p = none) ∨ (e = 0 ∧ ¬ top < (v : Int) ∧ stepN top l p = some (v, p + j) ∧ p + j ≤ l.length))
theorem get_at (l : List Int) (vs : Value) (p : Nat) (W : World) (top : Int) (ho : Octs W vs (l.drop p)) (hp : p ≤ l.length) : ∃ (v j : Nat) (e : Int), GAt l vs p W top v j e := by
  have hall := fun W' (hb : Below W.heap.size W W') => get_any (l.drop p) _ W' (ho.up hb)
  rcases get_says (l.drop p) ho.1 with q | q | ⟨n, j, q, n0, n1, j1, j2, _, _⟩
  · rw [q] at hall
    exact ⟨0, 0, 8, hall, by omega, .inl ⟨by decide, by unfold stepN; rw [getRet_inj q]; simp⟩⟩
  · rw [q] at hall
    exact ⟨0, 0, 4, hall, by omega, .inl ⟨by decide, by unfold stepN; rw [getRet_inj q]; simp⟩⟩
  · rw [q] at hall
    obtain ⟨v, rfl⟩ := Int.eq_ofNat_of_zero_le n0
    refine ⟨v, j, 0, hall, by omega, .inr ?_⟩
    rw [List.length_drop] at j2
    by_cases ht : top < (v : Int)
    · exact .inl ⟨rfl, ht, by unfold stepN; rw [getRet_inj q]; simp [ht]⟩
    · refine .inr ⟨rfl, ht, ?_, by omega⟩
      unfold stepN
      rw [getRet_inj q]
      simp [ht]
set_option maxHeartbeats 4000000 in
set_option maxRecDepth 100000 in
theorem readNums_any (l : List Int) (a : Option Addr) (c h : Nat) (w : World) (ho : Octs w (.slice a l.length c) l) (hh : h ≤ 1099511627776) (hl : l.length ≤ 140737488355328) :
    Calls Tryz.prog 121 #[.slice a l.length c, .int .i64 h] w fun e w' => e = .returned (retN (numsP h l)) ∧ Hid (Below w.heap.size w w') := by
  obtain ⟨n, hn⟩ : ∃ n, n = l.length := ⟨_, rfl⟩
  have HO : Hid (Octs w (.slice a l.length c) l) := ho
  have HGA : Hid (∀ p top, p ≤ n → ∃ (v j : Nat) (e : Int), GAt l (.slice (if c = p then a else a.map (fun x => x.add p)) (n - p) (c - p)) p w top v j e) := fun p top hp => by
    rw [hn] at hp ⊢
    exact get_at l _ p w top (octs_from ho p hp) hp
  have HG0 : Hid (∃ (v j : Nat) (e : Int), GAt l (.slice a n c) 0 w (h : Int) v j e) := by
    rw [hn]
    exact get_at l _ 0 w h (by simpa using ho) (Nat.zero_le _)
  clear ho
  have ix0 := fun w => (idx70 (h : Int) 96 1099511627776 512 w).1
  have ix1 := fun w => (idx70 (h : Int) 96 1099511627776 512 w).2.1
  have ix2 := fun w => (idx70 (h : Int) 96 1099511627776 512 w).2.2.1
  have ix3 := fun w => (idx70 (h : Int) 96 1099511627776 512 w).2.2.2
  rw [← hn] at hl ⊢
  have HN : Hid (n = l.length) := hn
  clear hn
  go_enter Tryz.func121, Tryz.ntmps121
  go_wp2_with fail
  have hz0 : ∃ w0, w0 = ((w.alloc (.cells #[.int .i64 0, .int .i64 0, .int .i64 0, .int .i64 0] 189)).alloc (.cells #[.int .i64 (h : Int), .int .i64 96, .int .i64 1099511627776, .int .i64 512] 189)).alloc (.cells #[.int .i64 0, .int .i64 0, .int .i64 0, .int .i64 0] 189) := ⟨_, rfl⟩
  obtain ⟨w0, hw0⟩ := hz0
  have B4 : Hid (w0.heap[w.heap.size]? = some (.cells #[.int .i64 0, .int .i64 0, .int .i64 0, .int .i64 0] 189)) := by rw [hw0]; exact blk_up (blk_new _ _) (up_al (up_alloc _ _) _)
  have B8 : Hid (w0.heap[w.heap.size + 1 + 1]? = some (.cells #[.int .i64 0, .int .i64 0, .int .i64 0, .int .i64 0] 189)) := by
    have := blk_new ((w.alloc (.cells #[.int .i64 0, .int .i64 0, .int .i64 0, .int .i64 0] 189)).alloc (.cells #[.int .i64 (h : Int), .int .i64 96, .int .i64 1099511627776, .int .i64 512] 189)) (.cells #[.int .i64 0, .int .i64 0, .int .i64 0, .int .i64 0] 189)
    rw [hw0]
    have e : ((w.alloc (.cells #[.int .i64 0, .int .i64 0, .int .i64 0, .int .i64 0] 189)).alloc (.cells #[.int .i64 (h : Int), .int .i64 96, .int .i64 1099511627776, .int .i64 512] 189)).heap.size = w.heap.size + 1 + 1 := by simp
    rw [e] at this
    exact this
  have U0 : Hid (Below w.heap.size w w0) := by rw [hw0]; exact up_al (up_al (up_alloc _ _) _) _
  have HW0 : Hid (((w.alloc (.cells #[.int .i64 0, .int .i64 0, .int .i64 0, .int .i64 0] 189)).alloc (.cells #[.int .i64 (h : Int), .int .i64 96, .int .i64 1099511627776, .int .i64 512] 189)).alloc (.cells #[.int .i64 0, .int .i64 0, .int .i64 0, .int .i64 0] 189) = w0) := hw0.symm
  clear hw0
  have HBAD : Hid (∀ wz : World, wz.heap[w.heap.size]? = some (.cells #[.int .i64 0, .int .i64 0, .int .i64 0, .int .i64 0] 189) → Below w.heap.size w wz → numsP h l = none → ((((wz.setCell ⟨w.heap.size, 0, none⟩ (.int .i64 0)).setCell ⟨w.heap.size, 1, none⟩ (.int .i64 0)).setCell ⟨w.heap.size, 2, none⟩ (.int .i64 0)).setCell ⟨w.heap.size, 3, none⟩ (.int .i64 0)).heap[w.heap.size]? = some (.cells #[.int .i64 0, .int .i64 0, .int .i64 0, .int .i64 0] 189) ∧ Ending.returned (.tuple #[.agg #[.int .i64 0, .int .i64 0, .int .i64 0, .int .i64 0], .int .i64 0, .bool false]) = .returned (retN (numsP h l)) ∧ Hid (Below w.heap.size w ((((wz.setCell ⟨w.heap.size, 0, none⟩ (.int .i64 0)).setCell ⟨w.heap.size, 1, none⟩ (.int .i64 0)).setCell ⟨w.heap.size, 2, none⟩ (.int .i64 0)).setCell ⟨w.heap.size, 3, none⟩ (.int .i64 0)))) := by
    intro wz hb hu he
    refine ⟨set4_blk hb _ _ _ _, by rw [he]; rfl, hu.grown (set4_grown wz w.heap.size _ _ _ _) hu.size (fun k hk => by injection hk with hk; omega)⟩
  refine wp_loop_rounds 5 ?_
  obtain ⟨v0, j0, e0, G0⟩ := HG0.out
  have HC0 := hid G0.1
  have hv0 := G0.2.1
  rw [rounds_succ]
  rcases G0.2.2 with ⟨he, hs⟩ | ⟨rfl, ht, hs⟩ | ⟨rfl, ht, hs, hp0⟩
  · have HNONE : Hid (numsP h l = none) := by unfold Hid numsP; simp only [hs]
    have he1 : (e0 == 0) = false := by simp [he]
    have he2 : (e0 != 0) = true := by simp [he]
    clear hs G0
    go_wp2_with fail
    rw [HW0.out]
    refine (HC0.out _ U0.out).mono ?_
    rintro e x0 ⟨rfl, d0, hx0⟩
    have UX0 : Hid (Below w.heap.size w x0) := by rw [hx0]; exact up_trans U0.out (up_drewN _ _)
    have X40 : Hid (x0.heap[w.heap.size]? = some (.cells #[.int .i64 0, .int .i64 0, .int .i64 0, .int .i64 0] 189)) := by rw [hx0]; exact blk_up B4.out (up_drewN _ _)
    have X80 : Hid (x0.heap[w.heap.size + 1 + 1]? = some (.cells #[.int .i64 0, .int .i64 0, .int .i64 0, .int .i64 0] 189)) := by rw [hx0]; exact blk_up B8.out (up_drewN _ _)
    clear hx0
    have y0 := blk_cell X40.out 0 _ rfl
    have f0 := blk_frozen X40.out 0
    have y1 := blk_cell X40.out 1 _ rfl
    have f1 := blk_frozen X40.out 1
    have y2 := blk_cell X40.out 2 _ rfl
    have f2 := blk_frozen X40.out 2
    have y3 := blk_cell X40.out 3 _ rfl
    have f3 := blk_frozen X40.out 3
    go_wp2_with fail
    obtain ⟨r1, r2, r3⟩ := HBAD.out x0 X40.out UX0.out HNONE.out
    refine bodyPost_ret (results_num rfl _ _ rfl r1) rfl ?_
    exact ⟨r2, r3⟩
  · have HNONE : Hid (numsP h l = none) := by unfold Hid numsP; simp only [hs]
    clear hs G0
    go_wp2_with fail
    rw [HW0.out]
    refine (HC0.out _ U0.out).mono ?_
    rintro e x0 ⟨rfl, d0, hx0⟩
    have UX0 : Hid (Below w.heap.size w x0) := by rw [hx0]; exact up_trans U0.out (up_drewN _ _)
    have X40 : Hid (x0.heap[w.heap.size]? = some (.cells #[.int .i64 0, .int .i64 0, .int .i64 0, .int .i64 0] 189)) := by rw [hx0]; exact blk_up B4.out (up_drewN _ _)
    have X80 : Hid (x0.heap[w.heap.size + 1 + 1]? = some (.cells #[.int .i64 0, .int .i64 0, .int .i64 0, .int .i64 0] 189)) := by rw [hx0]; exact blk_up B8.out (up_drewN _ _)
    clear hx0
    have y0 := blk_cell X40.out 0 _ rfl
    have f0 := blk_frozen X40.out 0
    have y1 := blk_cell X40.out 1 _ rfl
    have f1 := blk_frozen X40.out 1
    have y2 := blk_cell X40.out 2 _ rfl
    have f2 := blk_frozen X40.out 2
    have y3 := blk_cell X40.out 3 _ rfl
    have f3 := blk_frozen X40.out 3
    go_wp2_with fail
    obtain ⟨r1, r2, r3⟩ := HBAD.out x0 X40.out UX0.out HNONE.out
    refine bodyPost_ret (results_num rfl _ _ rfl r1) rfl ?_
    exact ⟨r2, r3⟩
  have HS0 : Hid (stepN (h : Int) l 0 = some (v0, 0 + j0)) := hs
  clear hs G0
  have hvi0 : IntKind.i64.wrap (v0 : Int) = (v0 : Int) := by rw [IntKind.wrap_i64]; omega
  obtain ⟨p1, hp1⟩ : ∃ q, q = 0 + j0 := ⟨_, rfl⟩
  rw [← hp1] at HS0 hp0
  have hj0 : (j0 : Int) = (p1 : Int) := by omega
  have hw0 : IntKind.i64.wrap (p1 : Int) = (p1 : Int) := by have := HN.out; rw [IntKind.wrap_i64]; omega
  have pl1 : p1 ≤ n := by have := HN.out; omega
  clear hp1 hp0
  go_wp2_with fail
  rw [HW0.out]
  refine (HC0.out _ U0.out).mono ?_
  rintro e x0 ⟨rfl, d0, hx0⟩
  have UX0 : Hid (Below w.heap.size w x0) := by rw [hx0]; exact up_trans U0.out (up_drewN _ _)
  have X40 : Hid (x0.heap[w.heap.size]? = some (.cells #[.int .i64 0, .int .i64 0, .int .i64 0, .int .i64 0] 189)) := by rw [hx0]; exact blk_up B4.out (up_drewN _ _)
  have X80 : Hid (x0.heap[w.heap.size + 1 + 1]? = some (.cells #[.int .i64 0, .int .i64 0, .int .i64 0, .int .i64 0] 189)) := by rw [hx0]; exact blk_up B8.out (up_drewN _ _)
  clear hx0
  have y0 := blk_cell X80.out 0 _ rfl
  have f0 := blk_frozen X80.out 0
  have y1 := blk_cell X80.out 1 _ rfl
  have f1 := blk_frozen X80.out 1
  have y2 := blk_cell X80.out 2 _ rfl
  have f2 := blk_frozen X80.out 2
  have y3 := blk_cell X80.out 3 _ rfl
  have f3 := blk_frozen X80.out 3
  go_wp2_with fail
  obtain ⟨w1, hw1'⟩ : ∃ w', w' = x0.setCell ⟨w.heap.size + 1 + 1, 0, none⟩ (.int .i64 (v0 : Int)) := ⟨_, rfl⟩
  have hg0 : x0.grownBy w1 (some (w.heap.size + 1 + 1)) := by rw [hw1']; exact grown_set x0 ⟨w.heap.size + 1 + 1, 0, none⟩ _
  have U1 : Hid (Below w.heap.size w w1) := UX0.out.grown hg0 UX0.out.size (fun k hk => by injection hk with hk; omega)
  clear B4 B8
  have B4 : Hid (w1.heap[w.heap.size]? = some (.cells #[.int .i64 0, .int .i64 0, .int .i64 0, .int .i64 0] 189)) := blk_grown X40.out hg0 (fun e => by injection e with e; omega)
  have B8 : Hid (w1.heap[w.heap.size + 1 + 1]? = some (.cells #[.int .i64 (v0 : Int), .int .i64 0, .int .i64 0, .int .i64 0] 189)) := by
    unfold Hid
    rw [hw1']
    have := blk_set X80.out 0 (.int .i64 (v0 : Int))
    simpa only [List.setIfInBounds_toArray, List.set_cons_zero, List.set_cons_succ] using this
  have HW1 : Hid (x0.setCell ⟨w.heap.size + 1 + 1, 0, none⟩ (.int .i64 (v0 : Int)) = w1) := hw1'.symm
  try rw [HW1.out]
  clear hw1' hg0 UX0 X40 X80 y0 y1 y2 y3 f0 f1 f2 f3 HC0 HW1
  clear HW0
  have hg1' := HGA.out p1 96 pl1
  obtain ⟨A1, hA1⟩ : ∃ A, (if c = p1 then a else a.map (fun x => x.add p1)) = A := ⟨_, rfl⟩
  rw [hA1] at hg1'
  obtain ⟨v1, j1, e1, G1⟩ := hg1'
  have HC1 := hid G1.1
  have hv1 := G1.2.1
  rw [rounds_succ]
  rcases G1.2.2 with ⟨he, hs⟩ | ⟨rfl, ht, hs⟩ | ⟨rfl, ht, hs, hp1⟩
  · have HNONE : Hid (numsP h l = none) := by unfold Hid numsP; simp only [HS0.out, hs]
    have he1 : (e1 == 0) = false := by simp [he]
    have he2 : (e1 != 0) = true := by simp [he]
    clear hs G1
    go_wp2_with fail
    refine (HC1.out _ U1.out).mono ?_
    rintro e x1 ⟨rfl, d1, hx1⟩
    have UX1 : Hid (Below w.heap.size w x1) := by rw [hx1]; exact up_trans U1.out (up_drewN _ _)
    have X41 : Hid (x1.heap[w.heap.size]? = some (.cells #[.int .i64 0, .int .i64 0, .int .i64 0, .int .i64 0] 189)) := by rw [hx1]; exact blk_up B4.out (up_drewN _ _)
    have X81 : Hid (x1.heap[w.heap.size + 1 + 1]? = some (.cells #[.int .i64 (v0 : Int), .int .i64 0, .int .i64 0, .int .i64 0] 189)) := by rw [hx1]; exact blk_up B8.out (up_drewN _ _)
    clear hx1
    have y0 := blk_cell X41.out 0 _ rfl
    have f0 := blk_frozen X41.out 0
    have y1 := blk_cell X41.out 1 _ rfl
    have f1 := blk_frozen X41.out 1
    have y2 := blk_cell X41.out 2 _ rfl
    have f2 := blk_frozen X41.out 2
    have y3 := blk_cell X41.out 3 _ rfl
    have f3 := blk_frozen X41.out 3
    go_wp2_with fail
    obtain ⟨r1, r2, r3⟩ := HBAD.out x1 X41.out UX1.out HNONE.out
    refine bodyPost_ret (results_num rfl _ _ rfl r1) rfl ?_
    exact ⟨r2, r3⟩
  · have HNONE : Hid (numsP h l = none) := by unfold Hid numsP; simp only [HS0.out, hs]
    clear hs G1
    go_wp2_with fail
    refine (HC1.out _ U1.out).mono ?_
    rintro e x1 ⟨rfl, d1, hx1⟩
    have UX1 : Hid (Below w.heap.size w x1) := by rw [hx1]; exact up_trans U1.out (up_drewN _ _)
    have X41 : Hid (x1.heap[w.heap.size]? = some (.cells #[.int .i64 0, .int .i64 0, .int .i64 0, .int .i64 0] 189)) := by rw [hx1]; exact blk_up B4.out (up_drewN _ _)
    have X81 : Hid (x1.heap[w.heap.size + 1 + 1]? = some (.cells #[.int .i64 (v0 : Int), .int .i64 0, .int .i64 0, .int .i64 0] 189)) := by rw [hx1]; exact blk_up B8.out (up_drewN _ _)
    clear hx1
    have y0 := blk_cell X41.out 0 _ rfl
    have f0 := blk_frozen X41.out 0
    have y1 := blk_cell X41.out 1 _ rfl
    have f1 := blk_frozen X41.out 1
    have y2 := blk_cell X41.out 2 _ rfl
    have f2 := blk_frozen X41.out 2
    have y3 := blk_cell X41.out 3 _ rfl
    have f3 := blk_frozen X41.out 3
    go_wp2_with fail
    obtain ⟨r1, r2, r3⟩ := HBAD.out x1 X41.out UX1.out HNONE.out
    refine bodyPost_ret (results_num rfl _ _ rfl r1) rfl ?_
    exact ⟨r2, r3⟩
  have HS1 : Hid (stepN 96 l p1 = some (v1, p1 + j1)) := hs
  clear hs G1
  have hvi1 : IntKind.i64.wrap (v1 : Int) = (v1 : Int) := by rw [IntKind.wrap_i64]; omega
  obtain ⟨p2, hp2⟩ : ∃ q, q = p1 + j1 := ⟨_, rfl⟩
  rw [← hp2] at HS1 hp1
  have hj1 : (p1 : Int) + (j1 : Int) = (p2 : Int) := by omega
  have hw1 : IntKind.i64.wrap (p2 : Int) = (p2 : Int) := by have := HN.out; rw [IntKind.wrap_i64]; omega
  have pl2 : p2 ≤ n := by have := HN.out; omega
  clear hp2 hp1
  go_wp2_with fail
  refine (HC1.out _ U1.out).mono ?_
  rintro e x1 ⟨rfl, d1, hx1⟩
  have UX1 : Hid (Below w.heap.size w x1) := by rw [hx1]; exact up_trans U1.out (up_drewN _ _)
  have X41 : Hid (x1.heap[w.heap.size]? = some (.cells #[.int .i64 0, .int .i64 0, .int .i64 0, .int .i64 0] 189)) := by rw [hx1]; exact blk_up B4.out (up_drewN _ _)
  have X81 : Hid (x1.heap[w.heap.size + 1 + 1]? = some (.cells #[.int .i64 (v0 : Int), .int .i64 0, .int .i64 0, .int .i64 0] 189)) := by rw [hx1]; exact blk_up B8.out (up_drewN _ _)
  clear hx1
  have y0 := blk_cell X81.out 0 _ rfl
  have f0 := blk_frozen X81.out 0
  have y1 := blk_cell X81.out 1 _ rfl
  have f1 := blk_frozen X81.out 1
  have y2 := blk_cell X81.out 2 _ rfl
  have f2 := blk_frozen X81.out 2
  have y3 := blk_cell X81.out 3 _ rfl
  have f3 := blk_frozen X81.out 3
  go_wp2_with fail
  obtain ⟨w2, hw2'⟩ : ∃ w', w' = x1.setCell ⟨w.heap.size + 1 + 1, 1, none⟩ (.int .i64 (v1 : Int)) := ⟨_, rfl⟩
  have hg1 : x1.grownBy w2 (some (w.heap.size + 1 + 1)) := by rw [hw2']; exact grown_set x1 ⟨w.heap.size + 1 + 1, 1, none⟩ _
  have U2 : Hid (Below w.heap.size w w2) := UX1.out.grown hg1 UX1.out.size (fun k hk => by injection hk with hk; omega)
  clear B4 B8
  have B4 : Hid (w2.heap[w.heap.size]? = some (.cells #[.int .i64 0, .int .i64 0, .int .i64 0, .int .i64 0] 189)) := blk_grown X41.out hg1 (fun e => by injection e with e; omega)
  have B8 : Hid (w2.heap[w.heap.size + 1 + 1]? = some (.cells #[.int .i64 (v0 : Int), .int .i64 (v1 : Int), .int .i64 0, .int .i64 0] 189)) := by
    unfold Hid
    rw [hw2']
    have := blk_set X81.out 1 (.int .i64 (v1 : Int))
    simpa only [List.setIfInBounds_toArray, List.set_cons_zero, List.set_cons_succ] using this
  have HW2 : Hid (x1.setCell ⟨w.heap.size + 1 + 1, 1, none⟩ (.int .i64 (v1 : Int)) = w2) := hw2'.symm
  try rw [HW2.out]
  clear hw2' hg1 UX1 X41 X81 y0 y1 y2 y3 f0 f1 f2 f3 HC1 HW2
  have hg2' := HGA.out p2 1099511627776 pl2
  obtain ⟨A2, hA2⟩ : ∃ A, (if c = p2 then a else a.map (fun x => x.add p2)) = A := ⟨_, rfl⟩
  rw [hA2] at hg2'
  obtain ⟨v2, j2, e2, G2⟩ := hg2'
  have HC2 := hid G2.1
  have hv2 := G2.2.1
  rw [rounds_succ]
  rcases G2.2.2 with ⟨he, hs⟩ | ⟨rfl, ht, hs⟩ | ⟨rfl, ht, hs, hp2⟩
  · have HNONE : Hid (numsP h l = none) := by unfold Hid numsP; simp only [HS0.out, HS1.out, hs]
    have he1 : (e2 == 0) = false := by simp [he]
    have he2 : (e2 != 0) = true := by simp [he]
    clear hs G2
    go_wp2_with fail
    refine (HC2.out _ U2.out).mono ?_
    rintro e x2 ⟨rfl, d2, hx2⟩
    have UX2 : Hid (Below w.heap.size w x2) := by rw [hx2]; exact up_trans U2.out (up_drewN _ _)
    have X42 : Hid (x2.heap[w.heap.size]? = some (.cells #[.int .i64 0, .int .i64 0, .int .i64 0, .int .i64 0] 189)) := by rw [hx2]; exact blk_up B4.out (up_drewN _ _)
    have X82 : Hid (x2.heap[w.heap.size + 1 + 1]? = some (.cells #[.int .i64 (v0 : Int), .int .i64 (v1 : Int), .int .i64 0, .int .i64 0] 189)) := by rw [hx2]; exact blk_up B8.out (up_drewN _ _)
    clear hx2
    have y0 := blk_cell X42.out 0 _ rfl
    have f0 := blk_frozen X42.out 0
    have y1 := blk_cell X42.out 1 _ rfl
    have f1 := blk_frozen X42.out 1
    have y2 := blk_cell X42.out 2 _ rfl
    have f2 := blk_frozen X42.out 2
    have y3 := blk_cell X42.out 3 _ rfl
    have f3 := blk_frozen X42.out 3
    go_wp2_with fail
    obtain ⟨r1, r2, r3⟩ := HBAD.out x2 X42.out UX2.out HNONE.out
    refine bodyPost_ret (results_num rfl _ _ rfl r1) rfl ?_
    exact ⟨r2, r3⟩
  · have HNONE : Hid (numsP h l = none) := by unfold Hid numsP; simp only [HS0.out, HS1.out, hs]
    clear hs G2
    go_wp2_with fail
    refine (HC2.out _ U2.out).mono ?_
    rintro e x2 ⟨rfl, d2, hx2⟩
    have UX2 : Hid (Below w.heap.size w x2) := by rw [hx2]; exact up_trans U2.out (up_drewN _ _)
    have X42 : Hid (x2.heap[w.heap.size]? = some (.cells #[.int .i64 0, .int .i64 0, .int .i64 0, .int .i64 0] 189)) := by rw [hx2]; exact blk_up B4.out (up_drewN _ _)
    have X82 : Hid (x2.heap[w.heap.size + 1 + 1]? = some (.cells #[.int .i64 (v0 : Int), .int .i64 (v1 : Int), .int .i64 0, .int .i64 0] 189)) := by rw [hx2]; exact blk_up B8.out (up_drewN _ _)
    clear hx2
    have y0 := blk_cell X42.out 0 _ rfl
    have f0 := blk_frozen X42.out 0
    have y1 := blk_cell X42.out 1 _ rfl
    have f1 := blk_frozen X42.out 1
    have y2 := blk_cell X42.out 2 _ rfl
    have f2 := blk_frozen X42.out 2
    have y3 := blk_cell X42.out 3 _ rfl
    have f3 := blk_frozen X42.out 3
    go_wp2_with fail
    obtain ⟨r1, r2, r3⟩ := HBAD.out x2 X42.out UX2.out HNONE.out
    refine bodyPost_ret (results_num rfl _ _ rfl r1) rfl ?_
    exact ⟨r2, r3⟩
  have HS2 : Hid (stepN 1099511627776 l p2 = some (v2, p2 + j2)) := hs
  clear hs G2
  have hvi2 : IntKind.i64.wrap (v2 : Int) = (v2 : Int) := by rw [IntKind.wrap_i64]; omega
  obtain ⟨p3, hp3⟩ : ∃ q, q = p2 + j2 := ⟨_, rfl⟩
  rw [← hp3] at HS2 hp2
  have hj2 : (p2 : Int) + (j2 : Int) = (p3 : Int) := by omega
  have hw2 : IntKind.i64.wrap (p3 : Int) = (p3 : Int) := by have := HN.out; rw [IntKind.wrap_i64]; omega
  have pl3 : p3 ≤ n := by have := HN.out; omega
  clear hp3 hp2
  go_wp2_with fail
  refine (HC2.out _ U2.out).mono ?_
  rintro e x2 ⟨rfl, d2, hx2⟩
  have UX2 : Hid (Below w.heap.size w x2) := by rw [hx2]; exact up_trans U2.out (up_drewN _ _)
  have X42 : Hid (x2.heap[w.heap.size]? = some (.cells #[.int .i64 0, .int .i64 0, .int .i64 0, .int .i64 0] 189)) := by rw [hx2]; exact blk_up B4.out (up_drewN _ _)
  have X82 : Hid (x2.heap[w.heap.size + 1 + 1]? = some (.cells #[.int .i64 (v0 : Int), .int .i64 (v1 : Int), .int .i64 0, .int .i64 0] 189)) := by rw [hx2]; exact blk_up B8.out (up_drewN _ _)
  clear hx2
  have y0 := blk_cell X82.out 0 _ rfl
  have f0 := blk_frozen X82.out 0
  have y1 := blk_cell X82.out 1 _ rfl
  have f1 := blk_frozen X82.out 1
  have y2 := blk_cell X82.out 2 _ rfl
  have f2 := blk_frozen X82.out 2
  have y3 := blk_cell X82.out 3 _ rfl
  have f3 := blk_frozen X82.out 3
  go_wp2_with fail
  obtain ⟨w3, hw3'⟩ : ∃ w', w' = x2.setCell ⟨w.heap.size + 1 + 1, 2, none⟩ (.int .i64 (v2 : Int)) := ⟨_, rfl⟩
  have hg2 : x2.grownBy w3 (some (w.heap.size + 1 + 1)) := by rw [hw3']; exact grown_set x2 ⟨w.heap.size + 1 + 1, 2, none⟩ _
  have U3 : Hid (Below w.heap.size w w3) := UX2.out.grown hg2 UX2.out.size (fun k hk => by injection hk with hk; omega)
  clear B4 B8
  have B4 : Hid (w3.heap[w.heap.size]? = some (.cells #[.int .i64 0, .int .i64 0, .int .i64 0, .int .i64 0] 189)) := blk_grown X42.out hg2 (fun e => by injection e with e; omega)
  have B8 : Hid (w3.heap[w.heap.size + 1 + 1]? = some (.cells #[.int .i64 (v0 : Int), .int .i64 (v1 : Int), .int .i64 (v2 : Int), .int .i64 0] 189)) := by
    unfold Hid
    rw [hw3']
    have := blk_set X82.out 2 (.int .i64 (v2 : Int))
    simpa only [List.setIfInBounds_toArray, List.set_cons_zero, List.set_cons_succ] using this
  have HW3 : Hid (x2.setCell ⟨w.heap.size + 1 + 1, 2, none⟩ (.int .i64 (v2 : Int)) = w3) := hw3'.symm
  try rw [HW3.out]
  clear hw3' hg2 UX2 X42 X82 y0 y1 y2 y3 f0 f1 f2 f3 HC2 HW3
  have hg3' := HGA.out p3 512 pl3
  obtain ⟨A3, hA3⟩ : ∃ A, (if c = p3 then a else a.map (fun x => x.add p3)) = A := ⟨_, rfl⟩
  rw [hA3] at hg3'
  obtain ⟨v3, j3, e3, G3⟩ := hg3'
  have HC3 := hid G3.1
  have hv3 := G3.2.1
  rw [rounds_succ]
  rcases G3.2.2 with ⟨he, hs⟩ | ⟨rfl, ht, hs⟩ | ⟨rfl, ht, hs, hp3⟩
  · have HNONE : Hid (numsP h l = none) := by unfold Hid numsP; simp only [HS0.out, HS1.out, HS2.out, hs]
    have he1 : (e3 == 0) = false := by simp [he]
    have he2 : (e3 != 0) = true := by simp [he]
    clear hs G3
    go_wp2_with fail
    refine (HC3.out _ U3.out).mono ?_
    rintro e x3 ⟨rfl, d3, hx3⟩
    have UX3 : Hid (Below w.heap.size w x3) := by rw [hx3]; exact up_trans U3.out (up_drewN _ _)
    have X43 : Hid (x3.heap[w.heap.size]? = some (.cells #[.int .i64 0, .int .i64 0, .int .i64 0, .int .i64 0] 189)) := by rw [hx3]; exact blk_up B4.out (up_drewN _ _)
    have X83 : Hid (x3.heap[w.heap.size + 1 + 1]? = some (.cells #[.int .i64 (v0 : Int), .int .i64 (v1 : Int), .int .i64 (v2 : Int), .int .i64 0] 189)) := by rw [hx3]; exact blk_up B8.out (up_drewN _ _)
    clear hx3
    have y0 := blk_cell X43.out 0 _ rfl
    have f0 := blk_frozen X43.out 0
    have y1 := blk_cell X43.out 1 _ rfl
    have f1 := blk_frozen X43.out 1
    have y2 := blk_cell X43.out 2 _ rfl
    have f2 := blk_frozen X43.out 2
    have y3 := blk_cell X43.out 3 _ rfl
    have f3 := blk_frozen X43.out 3
    go_wp2_with fail
    obtain ⟨r1, r2, r3⟩ := HBAD.out x3 X43.out UX3.out HNONE.out
    refine bodyPost_ret (results_num rfl _ _ rfl r1) rfl ?_
    exact ⟨r2, r3⟩
  · have HNONE : Hid (numsP h l = none) := by unfold Hid numsP; simp only [HS0.out, HS1.out, HS2.out, hs]
    clear hs G3
    go_wp2_with fail
    refine (HC3.out _ U3.out).mono ?_
    rintro e x3 ⟨rfl, d3, hx3⟩
    have UX3 : Hid (Below w.heap.size w x3) := by rw [hx3]; exact up_trans U3.out (up_drewN _ _)
    have X43 : Hid (x3.heap[w.heap.size]? = some (.cells #[.int .i64 0, .int .i64 0, .int .i64 0, .int .i64 0] 189)) := by rw [hx3]; exact blk_up B4.out (up_drewN _ _)
    have X83 : Hid (x3.heap[w.heap.size + 1 + 1]? = some (.cells #[.int .i64 (v0 : Int), .int .i64 (v1 : Int), .int .i64 (v2 : Int), .int .i64 0] 189)) := by rw [hx3]; exact blk_up B8.out (up_drewN _ _)
    clear hx3
    have y0 := blk_cell X43.out 0 _ rfl
    have f0 := blk_frozen X43.out 0
    have y1 := blk_cell X43.out 1 _ rfl
    have f1 := blk_frozen X43.out 1
    have y2 := blk_cell X43.out 2 _ rfl
    have f2 := blk_frozen X43.out 2
    have y3 := blk_cell X43.out 3 _ rfl
    have f3 := blk_frozen X43.out 3
    go_wp2_with fail
    obtain ⟨r1, r2, r3⟩ := HBAD.out x3 X43.out UX3.out HNONE.out
    refine bodyPost_ret (results_num rfl _ _ rfl r1) rfl ?_
    exact ⟨r2, r3⟩
  have HS3 : Hid (stepN 512 l p3 = some (v3, p3 + j3)) := hs
  clear hs G3
  have hvi3 : IntKind.i64.wrap (v3 : Int) = (v3 : Int) := by rw [IntKind.wrap_i64]; omega
  obtain ⟨p4, hp4⟩ : ∃ q, q = p3 + j3 := ⟨_, rfl⟩
  rw [← hp4] at HS3 hp3
  have hj3 : (p3 : Int) + (j3 : Int) = (p4 : Int) := by omega
  have hw3 : IntKind.i64.wrap (p4 : Int) = (p4 : Int) := by have := HN.out; rw [IntKind.wrap_i64]; omega
  have pl4 : p4 ≤ n := by have := HN.out; omega
  clear hp4 hp3
  go_wp2_with fail
  refine (HC3.out _ U3.out).mono ?_
  rintro e x3 ⟨rfl, d3, hx3⟩
  have UX3 : Hid (Below w.heap.size w x3) := by rw [hx3]; exact up_trans U3.out (up_drewN _ _)
  have X43 : Hid (x3.heap[w.heap.size]? = some (.cells #[.int .i64 0, .int .i64 0, .int .i64 0, .int .i64 0] 189)) := by rw [hx3]; exact blk_up B4.out (up_drewN _ _)
  have X83 : Hid (x3.heap[w.heap.size + 1 + 1]? = some (.cells #[.int .i64 (v0 : Int), .int .i64 (v1 : Int), .int .i64 (v2 : Int), .int .i64 0] 189)) := by rw [hx3]; exact blk_up B8.out (up_drewN _ _)
  clear hx3
  have y0 := blk_cell X83.out 0 _ rfl
  have f0 := blk_frozen X83.out 0
  have y1 := blk_cell X83.out 1 _ rfl
  have f1 := blk_frozen X83.out 1
  have y2 := blk_cell X83.out 2 _ rfl
  have f2 := blk_frozen X83.out 2
  have y3 := blk_cell X83.out 3 _ rfl
  have f3 := blk_frozen X83.out 3
  go_wp2_with fail
  obtain ⟨w4, hw4'⟩ : ∃ w', w' = x3.setCell ⟨w.heap.size + 1 + 1, 3, none⟩ (.int .i64 (v3 : Int)) := ⟨_, rfl⟩
  have hg3 : x3.grownBy w4 (some (w.heap.size + 1 + 1)) := by rw [hw4']; exact grown_set x3 ⟨w.heap.size + 1 + 1, 3, none⟩ _
  have U4 : Hid (Below w.heap.size w w4) := UX3.out.grown hg3 UX3.out.size (fun k hk => by injection hk with hk; omega)
  clear B4 B8
  have B4 : Hid (w4.heap[w.heap.size]? = some (.cells #[.int .i64 0, .int .i64 0, .int .i64 0, .int .i64 0] 189)) := blk_grown X43.out hg3 (fun e => by injection e with e; omega)
  have B8 : Hid (w4.heap[w.heap.size + 1 + 1]? = some (.cells #[.int .i64 (v0 : Int), .int .i64 (v1 : Int), .int .i64 (v2 : Int), .int .i64 (v3 : Int)] 189)) := by
    unfold Hid
    rw [hw4']
    have := blk_set X83.out 3 (.int .i64 (v3 : Int))
    simpa only [List.setIfInBounds_toArray, List.set_cons_zero, List.set_cons_succ] using this
  have HW4 : Hid (x3.setCell ⟨w.heap.size + 1 + 1, 3, none⟩ (.int .i64 (v3 : Int)) = w4) := hw4'.symm
  try rw [HW4.out]
  clear hw4' hg3 UX3 X43 X83 y0 y1 y2 y3 f0 f1 f2 f3 HC3 HW4
  rw [rounds_succ]
  have y0 := blk_cell B8.out 0 _ rfl
  have z0 := blk_cell B4.out 0 _ rfl
  have f0 := blk_frozen B4.out 0
  have y1 := blk_cell B8.out 1 _ rfl
  have z1 := blk_cell B4.out 1 _ rfl
  have f1 := blk_frozen B4.out 1
  have y2 := blk_cell B8.out 2 _ rfl
  have z2 := blk_cell B4.out 2 _ rfl
  have f2 := blk_frozen B4.out 2
  have y3 := blk_cell B8.out 3 _ rfl
  have z3 := blk_cell B4.out 3 _ rfl
  have f3 := blk_frozen B4.out 3
  have HOK : Hid (numsP h l = some (v0, v1, v2, v3, p4)) := by unfold Hid numsP; simp only [HS0.out, HS1.out, HS2.out, HS3.out]
  go_wp2_with fail
  have r1 := set4_blk B4.out (.int .i64 (v0 : Int)) (.int .i64 (v1 : Int)) (.int .i64 (v2 : Int)) (.int .i64 (v3 : Int))
  refine bodyPost_ret (results_num rfl _ _ rfl r1) rfl ?_
  refine ⟨by rw [HOK.out]; rfl, U4.out.grown (set4_grown w4 w.heap.size _ _ _ _) U4.out.size (fun k hk => by injection hk with hk; omega)⟩
end Go.Proofs.YthiegmhplnbdlaaGreat

namespace Go.Proofs.YthiegmhplnbdlaaGreat
open Go.RowKit SumPlain
set_option linter.unusedVariables false
set_option linter.unusedSimpArgs false
theorem octs_part {W : World} {a : Option Addr} {c : Nat} {l : List Int} (h : Octs W (.slice a l.length c) l) (p q : Nat) (hpq : p ≤ q) (hq : q ≤ l.length) : Octs W (.slice (if c = p then a else a.map (fun x => x.add p)) (q - p) (c - p)) ((l.drop p).take (q - p)) := by
  have h1 := octs_from h p (by omega)
  generalize (if c = p then a else a.map (fun x => x.add p)) = A at *
  rcases h1.2 with ⟨e, a', cap, e2, e3⟩ | ⟨hne, b, off, cap, e2, hcap, hm, hc⟩
  · simp only [Value.slice.injEq] at e2
    have hl : (l.drop p).length = 0 := by rw [e]; rfl
    rw [List.length_drop] at hl
    rw [e, show q - p = 0 by omega]
    refine ⟨by simp, .inl ⟨by simp, A, c - p, rfl, fun hA => ?_⟩⟩
    rw [e2.2.2]
    exact e3 (by rw [← e2.1]; exact hA)
  · simp only [Value.slice.injEq] at e2
    obtain ⟨rfl, hn, rfl⟩ := e2
    exact h1.cut (by rw [List.length_drop]) (q - p) (by rw [List.length_drop]; omega)
def GeR (x : List Int) (v j : Nat) (e : Int) : Prop := getOf x = ((v : Int), (j : Int), e) ∧ v ≤ 18446744073709551615 ∧ (e ≠ 0 ∨ (e = 0 ∧ 1 ≤ j ∧ j ≤ x.length))
theorem fget_len (l : List Int) : (fget l).2.1.length ≤ l.length := by
  unfold fget
  split
  · simp
  · split
    · simp
    · split
      · simp
      · split
        · simp
        · have := bare_le (l.take ((getOf l).2.1 + 1 + (getOf l).1 + 4).toNat)
          simp at this ⊢
          omega
theorem decB_len (b : List Int) : (decB b).1.length ≤ 64 := by
  by_cases h : (decB b).2 = 0
  · have e := enc_decB h
    unfold encB at e
    by_cases hc : chkB (decB b).1 = 0
    · exact (chkB_may hc).2.1
    · rw [if_neg hc] at e
      simp only [Prod.mk.injEq] at e
      exact absurd e.2 hc
  · rw [decB_bad h]; simp
end Go.Proofs.YthiegmhplnbdlaaGreat

namespace Go.Proofs.YthiegmhplnbdlaaGreat
open Go.RowKit SumPlain
set_option linter.unusedVariables false
set_option linter.unusedSimpArgs false
set_option maxHeartbeats 1000000 in
theorem commonP_l (l r : List Int) (hl : ∀ x ∈ l, 0 ≤ x ∧ x ≤ 255) (hr : ∀ x ∈ r, 0 ≤ x ∧ x ≤ 255) (h1 : l.length ≤ 140737488355328) (h2 : r.length ≤ 140737488355328) (w : World) :
    Calls Tryz.prog 110 #[.string (strOfNums l), .string (strOfNums r)] w fun e w' => e = .returned (.int .i64 (comL l r)) ∧ ∃ d, w' = w.drewN d := by
  have s1 := str_size l
  have s2 := str_size r
  go_enter Tryz.func110, Tryz.ntmps110
  go_wp2_with fail
  go_loopw [5] (fun i wr => ∃ k d : Nat, k ≤ l.length ∧ k ≤ r.length ∧ i = .int .i64 k ∧ Hid (comL l r = k + comL (l.drop k) (r.drop k)) ∧ wr = w.drewN d) (fun i _ => l.length - (intOf i).toNat)
  case atStart => exact ⟨0, 0, Nat.zero_le _, Nat.zero_le _, rfl, by simp [Hid], rfl⟩
  case round =>
    obtain ⟨k, d, k1, k2, rfl, HK, hwr⟩ := hrel
    have HW : Hid (wr = w.drewN d) := hwr
    clear hwr
    by_cases c1 : k < l.length
    · have c1' : (k : Int) < (l.length : Int) := by omega
      by_cases c2 : k < r.length
      · have c2' : (k : Int) < (r.length : Int) := by omega
        have j1 : k < (strOfNums l).size := by omega
        have j2 : k < (strOfNums r).size := by omega
        have y1 := str_at l hl k j1
        have y2 := str_at r hr k j2
        have b1 : 0 ≤ l.getD k 0 ∧ l.getD k 0 ≤ 255 := hl _ (by simp [List.getD, c1])
        have b2 : 0 ≤ r.getD k 0 ∧ r.getD k 0 ≤ 255 := hr _ (by simp [List.getD, c2])
        have HD : Hid (comL (l.drop k) (r.drop k) = if l.getD k 0 = r.getD k 0 then comL (l.drop (k + 1)) (r.drop (k + 1)) + 1 else 0) := by
          unfold Hid
          rw [drop_at l k c1, drop_at r k c2]
          rw [comL]
        generalize l.getD k 0 = x at *
        generalize r.getD k 0 = y at *
        by_cases hxy : x = y
        · subst hxy
          go_wp2_with fail
          go_quiet (fail)
          go_wp2_with fail
          refine ⟨⟨k + 1, d + nq, by omega, by omega, by go_num, ?_, ?_⟩, by simp [intOf]; omega⟩
          · unfold Hid
            rw [HK.out, HD.out, if_pos trivial]
            omega
          · rw [HW.out, drewN_more]
        · have hxy' : (x == y) = false := by simp [hxy]
          go_wp2_with fail
          go_quiet (fail)
          go_wp2_with fail
          go_ret
          refine ⟨?_, d + nq, by rw [HW.out, drewN_more]⟩
          rw [HK.out, HD.out, if_neg hxy]
          rfl
      · have c2' : ¬ (k : Int) < (r.length : Int) := by omega
        go_wp2_with fail
        go_quiet (fail)
        go_wp2_with fail
        go_ret
        refine ⟨?_, d + nq, by rw [HW.out, drewN_more]⟩
        rw [HK.out, List.drop_eq_nil_of_le (show r.length ≤ k by omega), comL_nil_right]
        rfl
    · have c1' : ¬ (k : Int) < (l.length : Int) := by omega
      go_wp2_with fail
      go_quiet (fail)
      go_wp2_with fail
      go_ret
      refine ⟨?_, d + nq, by rw [HW.out, drewN_more]⟩
      rw [HK.out, List.drop_eq_nil_of_le (show l.length ≤ k by omega), comL_nil_left]
      rfl
theorem commonP_any (a b : ByteArray) (h1 : a.size ≤ 140737488355328) (h2 : b.size ≤ 140737488355328) (w : World) :
    Calls Tryz.prog 110 #[.string a, .string b] w fun e w' => e = .returned (.int .i64 (comL (nums a) (nums b))) ∧ ∃ d, w' = w.drewN d := by
  have h := commonP_l (nums a) (nums b) (nums_octet a) (nums_octet b) (by rw [nums_length]; exact h1) (by rw [nums_length]; exact h2) w
  rw [str_nums, str_nums] at h
  exact h
theorem comL_symm : ∀ (l r : List Int), comL l r = comL r l
  | [], [] => rfl
  | [], y :: r => by unfold comL; rfl
  | x :: l, [] => by unfold comL; rfl
  | x :: l, y :: r => by
    unfold comL
    rw [comL_symm l r]
    by_cases h : x = y
    · rw [if_pos h, if_pos h.symm]
    · rw [if_neg h, if_neg (fun q => h q.symm)]
end Go.Proofs.YthiegmhplnbdlaaGreat
