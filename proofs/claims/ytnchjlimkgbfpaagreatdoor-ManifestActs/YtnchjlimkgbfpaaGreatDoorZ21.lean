/- The texts AMay, AMap, AChk, in this order. -/
import Derived.Test.YtnchjlimkgbfpaaGreatDoorZ20
import Derived.Deep.Cut
import Derived.Test.YtnchjlimkgbfpaaGreatDoorZ06
import Derived.Test.YtnchjlimkgbfpaaGreatDoorZ04
import Derived.Maps.OwnSet

namespace Go.Proofs.YtnchjlimkgbfpaaGreatDoor
open Go.RowKit
set_option linter.unusedVariables false
set_option maxRecDepth 20000
set_option linter.unusedSimpArgs false
theorem idx87 (n0 n1 n2 : Int) (w : World) : (Instr.index 205 (.agg #[.int .i64 n0, .int .i64 n1, .int .i64 n2]) (.int .i64 0)).run Tryz.prog w = .ok (.int .i64 n0) w ∧ (Instr.index 205 (.agg #[.int .i64 n0, .int .i64 n1, .int .i64 n2]) (.int .i64 1)).run Tryz.prog w = .ok (.int .i64 n1) w ∧ (Instr.index 205 (.agg #[.int .i64 n0, .int .i64 n1, .int .i64 n2]) (.int .i64 2)).run Tryz.prog w = .ok (.int .i64 n2) w := ⟨by kernel_rfl, by kernel_rfl, by kernel_rfl⟩
theorem idx89 (s t : ByteArray) (w : World) : (Instr.index 207 (.agg #[.string s, .string t]) (.int .i64 0)).run Tryz.prog w = .ok (.string s) w ∧ (Instr.index 207 (.agg #[.string s, .string t]) (.int .i64 1)).run Tryz.prog w = .ok (.string t) w := ⟨by kernel_rfl, by kernel_rfl⟩
def BoxM (W : World) (N : Nat) (m : Me) : Prop := W.heap[N]? = some (meBox m)
theorem BoxM.up {W W' : World} {N : Nat} {m : Me} (h : BoxM W N m) (hb : Below W.heap.size W W') : BoxM W' N m := blk_up h hb
theorem BoxM.cells {W : World} {N : Nat} {m : Me} (h : BoxM W N m) : W.cell? ⟨N, 0, none⟩ = some (.int .i64 m.id) ∧ W.cell? ⟨N, 1, none⟩ = some (.int .i64 m.lvl) ∧ W.cell? ⟨N, 2, none⟩ = some (.int .i64 m.cnt) ∧ W.cell? ⟨N, 3, none⟩ = some (.string m.low) ∧ W.cell? ⟨N, 4, none⟩ = some (.string m.high) :=
  ⟨blk_cell h 0 _ rfl, blk_cell h 1 _ rfl, blk_cell h 2 _ rfl, blk_cell h 3 _ rfl, blk_cell h 4 _ rfl⟩
def tripE (a b c : Int) : Obj := .cells #[.int .i64 a, .int .i64 b, .int .i64 c] 205
theorem mayM_eq (m : Me) : mayM m = (decide (1 ≤ m.id ∧ m.id ≤ 2147483647) && (decide (0 ≤ m.lvl ∧ m.lvl ≤ 3) && (decide (1 ≤ m.cnt ∧ m.cnt ≤ 4096) && (decide (1 ≤ (m.low.size : Int) ∧ (m.low.size : Int) ≤ 96) && (decide (1 ≤ (m.high.size : Int) ∧ (m.high.size : Int) ≤ 96) && leM m.low m.high))))) := by
  unfold mayM keyM
  have e : decide (1 ≤ m.id ∧ m.id ≤ 2147483647 ∧ 0 ≤ m.lvl ∧ m.lvl ≤ 3 ∧ 1 ≤ m.cnt ∧ m.cnt ≤ 4096) = (decide (1 ≤ m.id ∧ m.id ≤ 2147483647) && (decide (0 ≤ m.lvl ∧ m.lvl ≤ 3) && decide (1 ≤ m.cnt ∧ m.cnt ≤ 4096))) := by
    rw [Bool.eq_iff_iff]; simp; omega
  rw [e]
  simp only [Bool.and_assoc]
set_option maxHeartbeats 4000000 in
set_option maxRecDepth 100000 in
theorem mayBe_any (m : Me) (w : World) :
    Calls Tryz.prog 114 #[meV m] w fun e w' => e = .returned (.bool (mayM m)) ∧ Hid (Below w.heap.size w w') := by
  rw [mayM_eq]
  obtain ⟨i, l, c, lo, hi⟩ := m
  simp only
  have ix0 := fun w => (idx87 i l c w).1
  have ix1 := fun w => (idx87 i l c w).2.1
  have ix2 := fun w => (idx87 i l c w).2.2
  have iy0 := fun w => (idx89 lo hi w).1
  have iy1 := fun w => (idx89 lo hi w).2
  have HNO : Hid (∀ w, Calls Tryz.prog 119 #[.agg #[.int .i64 i, .int .i64 l, .int .i64 c, .string lo, .string hi]] w fun e w' => e = .returned (.agg #[.int .i64 i, .int .i64 l, .int .i64 c]) ∧ Hid (Below w.heap.size w w')) := fun w => numbersOf_any ⟨i, l, c, lo, hi⟩ w
  have HTO : Hid (∀ w, Calls Tryz.prog 120 #[.agg #[.int .i64 i, .int .i64 l, .int .i64 c, .string lo, .string hi]] w fun e w' => e = .returned (.agg #[.string lo, .string hi]) ∧ Hid (Below w.heap.size w w')) := fun w => textsOf_any ⟨i, l, c, lo, hi⟩ w
  have HLE : Hid (∀ b, leM lo hi = b → (Op.bytesLess lo.toList hi.toList || (lo.toList == hi.toList)) = b) := fun b h => h
  have H0 : Hid (∀ w, Calls Tryz.prog 113 #[.int .i64 i, .int .i64 1, .int .i64 2147483647] w fun e w' => e = .returned (.bool (decide (1 ≤ i ∧ i ≤ 2147483647))) ∧ w' = w) := fun w => within_any _ _ _ _
  have H1 : Hid (∀ w, Calls Tryz.prog 113 #[.int .i64 l, .int .i64 0, .int .i64 3] w fun e w' => e = .returned (.bool (decide (0 ≤ l ∧ l ≤ 3))) ∧ w' = w) := fun w => within_any _ _ _ _
  have H2 : Hid (∀ w, Calls Tryz.prog 113 #[.int .i64 c, .int .i64 1, .int .i64 4096] w fun e w' => e = .returned (.bool (decide (1 ≤ c ∧ c ≤ 4096))) ∧ w' = w) := fun w => within_any _ _ _ _
  have H3 : Hid (∀ w, Calls Tryz.prog 113 #[.int .i64 (lo.size : Int), .int .i64 1, .int .i64 96] w fun e w' => e = .returned (.bool (decide (1 ≤ (lo.size : Int) ∧ (lo.size : Int) ≤ 96))) ∧ w' = w) := fun w => within_any _ _ _ _
  have H4 : Hid (∀ w, Calls Tryz.prog 113 #[.int .i64 (hi.size : Int), .int .i64 1, .int .i64 96] w fun e w' => e = .returned (.bool (decide (1 ≤ (hi.size : Int) ∧ (hi.size : Int) ≤ 96))) ∧ w' = w) := fun w => within_any _ _ _ _
  generalize decide (1 ≤ i ∧ i ≤ 2147483647) = b0 at H0 ⊢
  generalize decide (0 ≤ l ∧ l ≤ 3) = b1 at H1 ⊢
  generalize decide (1 ≤ c ∧ c ≤ 4096) = b2 at H2 ⊢
  generalize decide (1 ≤ (lo.size : Int) ∧ (lo.size : Int) ≤ 96) = b3 at H3 ⊢
  generalize decide (1 ≤ (hi.size : Int) ∧ (hi.size : Int) ≤ 96) = b4 at H4 ⊢
  generalize hb5 : leM lo hi = b5 at HLE ⊢
  have E5 := HLE.out b5 rfl
  clear HLE hb5
  unfold meV
  simp only
  obtain ⟨w3, hw3⟩ : ∃ w3, w3 = ((w.alloc (.cells #[.int .i64 i, .int .i64 l, .int .i64 c, .string lo, .string hi] 148)).alloc (tripE 1 0 1)).alloc (tripE 2147483647 3 4096) := ⟨_, rfl⟩
  have HW3 : Hid (((w.alloc (.cells #[.int .i64 i, .int .i64 l, .int .i64 c, .string lo, .string hi] 148)).alloc (.cells #[.int .i64 1, .int .i64 0, .int .i64 1] 205)).alloc (.cells #[.int .i64 2147483647, .int .i64 3, .int .i64 4096] 205) = w3) := hw3.symm
  have U3 : Hid (Below w.heap.size w w3) := by rw [hw3]; exact up_al (up_al (up_alloc _ _) _) _
  have BX : Hid (w3.heap[w.heap.size]? = some (.cells #[.int .i64 i, .int .i64 l, .int .i64 c, .string lo, .string hi] 148)) := by
    rw [hw3]; exact blk_up (blk_up (blk_new _ _) (up_alloc _ _)) (up_alloc _ _)
  have BA : Hid (w3.heap[w.heap.size + 1]? = some (tripE 1 0 1)) := by
    rw [hw3]
    have := blk_new (w.alloc (.cells #[.int .i64 i, .int .i64 l, .int .i64 c, .string lo, .string hi] 148)) (tripE 1 0 1)
    rw [show (w.alloc (.cells #[.int .i64 i, .int .i64 l, .int .i64 c, .string lo, .string hi] 148)).heap.size = w.heap.size + 1 by simp] at this
    exact blk_up this (up_alloc _ _)
  have BB : Hid (w3.heap[w.heap.size + 1 + 1]? = some (tripE 2147483647 3 4096)) := by
    rw [hw3]
    have := blk_new ((w.alloc (.cells #[.int .i64 i, .int .i64 l, .int .i64 c, .string lo, .string hi] 148)).alloc (tripE 1 0 1)) (tripE 2147483647 3 4096)
    rw [show ((w.alloc (.cells #[.int .i64 i, .int .i64 l, .int .i64 c, .string lo, .string hi] 148)).alloc (tripE 1 0 1)).heap.size = w.heap.size + 1 + 1 by simp] at this
    exact this
  clear hw3
  have x0 := blk_cell BX.out 0 _ rfl
  have x1 := blk_cell BX.out 1 _ rfl
  have x2 := blk_cell BX.out 2 _ rfl
  have x3 := blk_cell BX.out 3 _ rfl
  have x4 := blk_cell BX.out 4 _ rfl
  go_enter Tryz.func114, Tryz.ntmps114
  go_upto_region 3 with fail
  rw [HW3.out]
  go_wp2_with fail
  refine (HNO.out _).mono ?_
  rintro e w4 ⟨rfl, u4⟩
  have U : Hid (Below w.heap.size w w4) := up_trans U3.out u4.out
  have BX4 := hid (blk_up BX.out u4.out)
  have BA4 := hid (blk_up BA.out u4.out)
  have BB4 := hid (blk_up BB.out u4.out)
  unfold tripE at BA4 BB4
  clear u4 U3 BX BA BB x0 x1 x2 x3 x4 HW3
  generalize w.heap.size + 1 + 1 = NB at *
  generalize w.heap.size + 1 = NA at *
  go_wp2_with fail
  refine wp_loop_rounds 4 ?_
  rw [rounds_succ]
  have a0 := blk_cell BA4.out 0 _ rfl
  have c0 := blk_cell BB4.out 0 _ rfl
  cases b0
  · go_wp2_with fail
    go_quiet ((go_at_call 113; refine Calls.quiet_of_same (H0.out _)))
    go_wp2_with fail
    go_ret
    exact ⟨rfl, up_trans U.out (up_drewN _ _)⟩
  go_wp2_with fail
  go_quiet ((go_at_call 113; refine Calls.quiet_of_same (H0.out _)))
  replace U := hid (up_trans U.out (up_drewN w4 nq))
  replace BX4 := hid (blk_up BX4.out (up_drewN w4 nq))
  replace BA4 := hid (blk_up BA4.out (up_drewN w4 nq))
  replace BB4 := hid (blk_up BB4.out (up_drewN w4 nq))
  clear a0 c0
  generalize w4.drewN nq = w5 at *
  clear nq w4
  go_wp2_with fail
  rw [rounds_succ]
  have a1 := blk_cell BA4.out 1 _ rfl
  have c1 := blk_cell BB4.out 1 _ rfl
  cases b1
  · go_wp2_with fail
    go_quiet ((go_at_call 113; refine Calls.quiet_of_same (H1.out _)))
    go_wp2_with fail
    go_ret
    exact ⟨rfl, up_trans U.out (up_drewN _ _)⟩
  go_wp2_with fail
  go_quiet ((go_at_call 113; refine Calls.quiet_of_same (H1.out _)))
  replace U := hid (up_trans U.out (up_drewN w5 nq))
  replace BX4 := hid (blk_up BX4.out (up_drewN w5 nq))
  replace BA4 := hid (blk_up BA4.out (up_drewN w5 nq))
  replace BB4 := hid (blk_up BB4.out (up_drewN w5 nq))
  clear a1 c1
  generalize w5.drewN nq = w6 at *
  clear nq w5
  go_wp2_with fail
  rw [rounds_succ]
  have a2 := blk_cell BA4.out 2 _ rfl
  have c2 := blk_cell BB4.out 2 _ rfl
  cases b2
  · go_wp2_with fail
    go_quiet ((go_at_call 113; refine Calls.quiet_of_same (H2.out _)))
    go_wp2_with fail
    go_ret
    exact ⟨rfl, up_trans U.out (up_drewN _ _)⟩
  go_wp2_with fail
  go_quiet ((go_at_call 113; refine Calls.quiet_of_same (H2.out _)))
  replace U := hid (up_trans U.out (up_drewN w6 nq))
  replace BX4 := hid (blk_up BX4.out (up_drewN w6 nq))
  replace BA4 := hid (blk_up BA4.out (up_drewN w6 nq))
  replace BB4 := hid (blk_up BB4.out (up_drewN w6 nq))
  clear a2 c2
  generalize w6.drewN nq = w7 at *
  clear nq w6
  go_wp2_with fail
  rw [rounds_succ]
  have x0 := blk_cell BX4.out 0 _ rfl
  have x1 := blk_cell BX4.out 1 _ rfl
  have x2 := blk_cell BX4.out 2 _ rfl
  have x3 := blk_cell BX4.out 3 _ rfl
  have x4 := blk_cell BX4.out 4 _ rfl
  go_wp2_with fail
  refine (HTO.out _).mono ?_
  rintro e w8 ⟨rfl, u8⟩
  replace U := hid (up_trans U.out u8.out)
  replace BX4 := hid (blk_up BX4.out u8.out)
  clear x0 x1 x2 x3 x4 u8 BA4 BB4
  have x3 := blk_cell BX4.out 3 _ rfl
  have x4 := blk_cell BX4.out 4 _ rfl
  go_wp2_with fail
  refine wp_loop_rounds 3 ?_
  rw [rounds_succ]
  cases b3
  · go_wp2_with fail
    refine (H3.out _).mono ?_
    rintro e w9 ⟨rfl, rfl⟩
    go_wp2_with fail
    go_ret
    exact ⟨rfl, U⟩
  go_wp2_with fail
  refine (H3.out _).mono ?_
  rintro e w9 ⟨rfl, hw9⟩
  subst hw9
  go_wp2_with fail
  rw [rounds_succ]
  cases b4
  · go_wp2_with fail
    refine (H4.out _).mono ?_
    rintro e w9 ⟨rfl, rfl⟩
    go_wp2_with fail
    go_ret
    exact ⟨rfl, U⟩
  go_wp2_with fail
  refine (H4.out _).mono ?_
  rintro e w9 ⟨rfl, hw9⟩
  subst hw9
  go_wp2_with fail
  rw [rounds_succ]
  go_wp2_with fail
  go_ret
  exact ⟨rfl, U⟩
end Go.Proofs.YtnchjlimkgbfpaaGreatDoor

namespace Go.Proofs.YtnchjlimkgbfpaaGreatDoor
open Go.RowKit
set_option linter.unusedVariables false
set_option maxRecDepth 20000
def KeyW (R : Value → Option (DataW Unit × List MemPlace)) (w : World) (b : Nat) (ids : List Int) : Prop := ∃ D : DataW Unit, w.ownsMap Tryz.prog 3 R b ids.length D ∧ Maps.Tidy D ∧ Maps.size D = ids.length ∧ ∀ x, Maps.has D (.int .i64 x) = ids.contains x
def CntW (w : World) (b : Nat) (ids : List Int) : Prop := KeyW (plainElem Tryz.prog 3) w b ids
theorem own_tightE {R : Value → Option (DataW Unit × List MemPlace)} {w : World} {b n : Nat} {D : DataW Unit} (h : w.ownsMap Tryz.prog 3 R b n D) : w.ownsMap Tryz.prog 3 R b (Maps.size D) D := by
  obtain ⟨es, clock, hb, F, hs, rfl⟩ := h
  exact ⟨es, clock, hb, F, by simp [Maps.size, length_sorted], rfl⟩
theorem KeyW.made (R) (w : World) : KeyW R (w.alloc (.map #[] 0)) w.heap.size [] :=
  ⟨.map [], World.ownsMap_made w Tryz.prog 3 R, Maps.tidy_empty, rfl, fun x => rfl⟩
theorem KeyW.lt {R} {w : World} {b : Nat} {ids : List Int} (h : KeyW R w b ids) : b < w.heap.size := by
  obtain ⟨D, h1, _⟩ := h
  exact h1.lt
theorem KeyW.up {R} {w w' : World} {b : Nat} {ids : List Int} (h : KeyW R w b ids) (hb : Below w.heap.size w w') : KeyW R w' b ids := by
  obtain ⟨D, ⟨es, clock, hh, r⟩, h2⟩ := h
  exact ⟨D, ⟨es, clock, (hb.block b (Array.getElem?_eq_some_iff.1 hh).1).trans hh, r⟩, h2⟩
theorem KeyW.put {R} {w' : World} {b : Nat} {ids : List Int} {x : Int} {D d : DataW Unit} (hx : In64 x) (h2 : Maps.Tidy D) (h3 : Maps.size D = ids.length) (h4 : ∀ y, Maps.has D (.int .i64 y) = ids.contains y)
    (h : w'.ownsMap Tryz.prog 3 R b (ids.length + 1) (D.put (.int .i64 x) d)) : KeyW R w' b (addId ids x) := by
  have hk : WideAt.IsKeyLit (.int .i64 x) := trivial
  have hsz : Maps.size (D.put (.int .i64 x) d) = (addId ids x).length := by
    rw [Maps.size_put h2, h4 x, h3]
    unfold addId
    split <;> simp
  refine ⟨D.put (.int .i64 x) d, ?_, h2.put hk _, hsz, fun y => ?_⟩
  · have := own_tightE h
    rw [hsz] at this
    exact this
  · by_cases e : y = x
    · subst e
      rw [Maps.has_put_same h2.isMap hk]
      unfold addId
      split <;> simp_all
    · rw [Maps.has_put_other (by intro q; injection q with _ q; exact e q), h4 y]
      unfold addId
      split
      · rfl
      · simp [e]
theorem turned_below {w w' : World} {b n : Nat} (h : w.mapTurned w' b) (hb : n ≤ b) (hs : n ≤ w.heap.size) : Below n w w' := by
  have := h.grown
  exact (Below.refl _ _).grown this hs (by simp; omega)
theorem wpList_cnt_get (w : World) {ops : Array Oper} {rest : List Oper} {o : Oper} {a : Act} {Q : Exit → Act → World → Prop} (hgd : o.guard = none) (m x : Operand) (hop : o.op = Op.lookup 200 m x false)
    (b : Nat) (ids : List Int) (hm : a.eval m = .map (some b)) (hs : CntW w b ids) (id : Int) (hid : In64 id) (hx : a.eval x = .int .i64 id)
    (hK : ∀ c : Int, wpList Tryz.prog ops Q rest (a.put o.dst (.int .i64 c)) w) : wpList Tryz.prog ops Q (o :: rest) a w := by
  obtain ⟨D, h1, h2, h3, h4⟩ := hs
  refine wpList_lookup_own_int w hgd m x 200 hop 3 3 .i64 (Maps.int_keyed Tryz.underlying3) Tryz.underlying200 Tryz.underlying3 (by kernel_rfl) b ids.length D hm h1 _ (.int .i64 id) hx (Maps.keyOf_int_mk Tryz.underlying3 (wf_i64_of hid)) ?_
  intro c _ _
  exact hK c
theorem wpList_cnt_put (w : World) {ops : Array Oper} {rest : List Oper} {o : Oper} {a : Act} {Q : Exit → Act → World → Prop} (hgd : o.guard = none) (m x v : Operand) (hop : o.op = Op.mapUpdate 200 m x v)
    (b : Nat) (ids : List Int) (hm : a.eval m = .map (some b)) (hs : CntW w b ids) (hn : ids.length < maxLen) (id : Int) (hid : In64 id) (hx : a.eval x = .int .i64 id) (c : Int) (hc : In64 c) (hv : a.eval v = .int .i64 c)
    (hK : ∀ w', CntW w' b (addId ids id) → w.mapTurned w' b → wpList Tryz.prog ops Q rest (a.put o.dst undef) w') : wpList Tryz.prog ops Q (o :: rest) a w := by
  obtain ⟨D, h1, h2, h3, h4⟩ := hs
  refine wpList_mapUpdate_in w hgd m x v 200 hop 3 3 (Maps.int_keyed Tryz.underlying3) Tryz.underlying200 (plainElem Tryz.prog 3) b ids.length D hm h1 hn _ _ (.int .i64 id) hx hv (Maps.keyOf_int_mk Tryz.underlying3 (wf_i64_of hid)) (.lit (.int .i64 c)) [] (plainElem_int Tryz.underlying3 (wf_i64_of hc)) ?_
  intro w' r1 r2
  exact hK w' (KeyW.put hid h2 h3 h4 r1) r2
end Go.Proofs.YtnchjlimkgbfpaaGreatDoor

namespace Go.Proofs.YtnchjlimkgbfpaaGreatDoor
open Go.RowKit
set_option linter.unusedVariables false
set_option maxRecDepth 20000
set_option linter.unusedSimpArgs false
theorem ordM_lt (a b : Me) : decide (ordM a b < 0) = befM a b := by
  unfold ordM befM cmpI cmpS
  by_cases e : a.lvl = b.lvl
  · rw [if_pos e]
    rw [if_pos (by rw [if_neg (by omega), if_neg (by omega)])]
    by_cases z : a.lvl = 0
    · rw [if_pos z, if_pos z]
      by_cases h1 : b.id < a.id
      · simp [h1]
      · by_cases h2 : a.id < b.id <;> simp [h1, h2]
    · rw [if_neg z, if_neg z]
      cases h1 : Op.bytesLess a.low.toList b.low.toList
      · cases h2 : Op.bytesLess b.low.toList a.low.toList <;> simp
      · simp
  · rw [if_neg e]
    by_cases h1 : a.lvl < b.lvl
    · simp [h1]
    · have h2 : b.lvl < a.lvl := by omega
      simp [h1, h2]
def folM (a b : Me) : Bool := if a.lvl = b.lvl ∧ 0 < b.lvl then Op.bytesLess a.high.toList b.low.toList else decide (ordM a b < 0)
theorem folM_eq (p m : Me) (hp : leM p.low p.high = true) : folM p m = (befM p m && !(decide (0 < m.lvl) && (decide (p.lvl = m.lvl) && leM m.low p.high))) := by
  unfold folM
  by_cases h : p.lvl = m.lvl ∧ 0 < m.lvl
  · rw [if_pos h, decide_eq_true h.1, decide_eq_true h.2, Bool.true_and, Bool.true_and]
    have hb : befM p m = Op.bytesLess p.low.toList m.low.toList := by
      unfold befM
      rw [if_pos h.1, if_neg (by omega)]
    rw [hb]
    cases q : leM m.low p.high
    · have q2 := leM_not.1 q
      rw [q2, leM_lt hp q2]
      rfl
    · cases r : Op.bytesLess p.high.toList m.low.toList
      · simp
      · have := leM_not.2 r
        rw [q] at this
        cases this
  · rw [if_neg h, ordM_lt]
    have : (decide (0 < m.lvl) && (decide (p.lvl = m.lvl) && leM m.low p.high)) = false := by
      by_cases h1 : 0 < m.lvl
      · have h2 : ¬ p.lvl = m.lvl := fun e => h ⟨e, h1⟩
        simp [h2]
      · simp [h1]
    rw [this]
    simp
def idsM (l : List Me) : List Int := (l.map Me.id).foldl addId []
theorem idsM_snoc (l : List Me) (m : Me) : idsM (l ++ [m]) = addId (idsM l) m.id := by simp [idsM, List.foldl_append]
theorem fold_leE : ∀ (l acc : List Int), (l.foldl addId acc).length ≤ acc.length + l.length
  | [], acc => by simp
  | x :: l, acc => by
    have h1 := fold_leE l (addId acc x)
    have h2 : (addId acc x).length ≤ acc.length + 1 := by unfold addId; split <;> simp
    simp only [List.foldl_cons, List.length_cons]
    omega
theorem idsM_len (l : List Me) : (idsM l).length ≤ l.length := by
  have := fold_leE (l.map Me.id) []
  simpa [idsM] using this
theorem fold_full : ∀ (l acc : List Int), acc.Nodup → ((l.foldl addId acc).length = acc.length + l.length ↔ (acc ++ l).Nodup)
  | [], acc, h => by simp [h]
  | x :: l, acc, h => by
    simp only [List.foldl_cons, List.length_cons]
    by_cases q : acc.contains x = true
    · have e : addId acc x = acc := by unfold addId; rw [if_pos q]
      rw [e]
      have h1 := fold_leE l acc
      have h2 : ¬ (acc ++ x :: l).Nodup := by
        intro hn
        rw [List.nodup_append] at hn
        exact hn.2.2 x (by simpa using q) x (by simp) rfl
      exact ⟨fun k => by omega, fun k => absurd k h2⟩
    · have e : addId acc x = acc ++ [x] := by unfold addId; rw [if_neg q]
      rw [e]
      have hn : (acc ++ [x]).Nodup := by
        rw [List.nodup_append]
        refine ⟨h, by simp, fun a ha b hb => ?_⟩
        simp at hb
        subst hb
        intro e2
        subst e2
        exact q (by simpa using ha)
      have := fold_full l (acc ++ [x]) hn
      simp only [List.length_append, List.length_cons, List.length_nil, List.append_assoc, List.cons_append, List.nil_append] at this
      rw [← this]
      omega
theorem idsM_full (l : List Me) : (idsM l).length = l.length ↔ (l.map Me.id).Nodup := by
  have := fold_full (l.map Me.id) [] (by simp)
  simpa [idsM] using this
theorem allM_iff (next : Int) (ts : List Me) : allM next [] ts = true ↔ (∀ k m, ts[k]? = some m → headM next (lastM ts k) m = true) ∧ (ts.map Me.id).Nodup := by
  have hall : ∀ k (m : Me), (ts.take k).all (fun p => decide (p.id ≠ m.id)) = true ↔ ∀ j p, j < k → ts[j]? = some p → p.id ≠ m.id := by
    intro k m
    rw [List.all_eq_true]
    constructor
    · intro h j p hj hp
      have := h p (by
        rw [List.mem_take_iff_getElem]
        have q := List.getElem?_eq_some_iff.1 hp
        exact ⟨j, by have := q.1; omega, q.2⟩)
      simpa using this
    · intro h p hp
      rw [List.mem_take_iff_getElem] at hp
      obtain ⟨j, hj, rfl⟩ := hp
      simpa using h j _ (by omega) (List.getElem?_eq_getElem (by omega))
  constructor
  · intro h
    refine ⟨fun k m hm => ?_, ?_⟩
    · have := allM_at next ts [] h k m hm
      rw [List.nil_append, okM_eq next ts k (Nat.le_of_lt (List.getElem?_eq_some_iff.1 hm).1) m, Bool.and_eq_true] at this
      exact this.1
    · unfold List.Nodup
      rw [List.pairwise_map, List.pairwise_iff_getElem]
      intro i j hi hj hij
      have := allM_at next ts [] h j ts[j] (List.getElem?_eq_getElem hj)
      rw [List.nil_append, okM_eq next ts j (Nat.le_of_lt hj) _, Bool.and_eq_true] at this
      exact (hall j _).1 this.2 i ts[i] hij (List.getElem?_eq_getElem hi)
  · rintro ⟨h1, h2⟩
    refine allM_of next ts [] (fun k m hm => ?_)
    rw [List.nil_append, okM_eq next ts k (Nat.le_of_lt (List.getElem?_eq_some_iff.1 hm).1) m, Bool.and_eq_true]
    refine ⟨h1 k m hm, (hall k m).2 (fun j p hj hp => ?_)⟩
    unfold List.Nodup at h2
    rw [List.pairwise_map, List.pairwise_iff_getElem] at h2
    have q := List.getElem?_eq_some_iff.1 hp
    have r := List.getElem?_eq_some_iff.1 hm
    have := h2 j k q.1 r.1 hj
    rw [q.2, r.2] at this
    exact this
def HdrV (n : Nat) (seq next : Int) : Prop := n ≤ 256 ∧ 1 ≤ next ∧ next ≤ 2147483647 ∧ 0 ≤ seq ∧ seq ≤ 1099511627776
theorem errV_head {ts : List Me} {seq next : Int} {k : Nat} {m : Me} (hm : ts[k]? = some m) (h : headM next (lastM ts k) m = false) : errV ts seq next = 9 := by
  unfold errV chkV
  cases q : allM next [] ts
  · simp
  · have := ((allM_iff next ts).1 q).1 k m hm
    rw [h] at this
    cases this
theorem errV_twice {ts : List Me} {seq next : Int} (h : (idsM ts).length < ts.length) : errV ts seq next = 9 := by
  unfold errV chkV
  cases q : allM next [] ts
  · simp
  · have := (idsM_full ts).2 ((allM_iff next ts).1 q).2
    omega
theorem errV_fine {ts : List Me} {seq next : Int} (h0 : HdrV ts.length seq next) (h1 : ∀ k m, ts[k]? = some m → headM next (lastM ts k) m = true) (h2 : ¬ (idsM ts).length < ts.length) : errV ts seq next = 0 := by
  unfold HdrV at h0
  have := idsM_len ts
  unfold errV chkV
  rw [decide_eq_true h0, (allM_iff next ts).2 ⟨h1, (idsM_full ts).1 (by omega)⟩]
  rfl
set_option maxHeartbeats 2000000 in
set_option maxRecDepth 100000 in
theorem follows_any (a b : Me) (w : World) :
    Calls Tryz.prog 115 #[meV a, meV b] w fun e w' => e = .returned (.bool (folM a b)) ∧ Hid (Below w.heap.size w w') := by
  have HO : Hid (∀ w, Calls Tryz.prog 153 #[meV a, meV b] w fun e w' => e = .returned (.int .i64 (ordM a b)) ∧ w' = (w.alloc (meBox a)).alloc (meBox b)) := fun w => order_any a b w
  have HU : Hid (∀ W : World, Below w.heap.size w W → Below w.heap.size w ((W.alloc (meBox a)).alloc (meBox b))) := fun W h => up_al (up_al h _) _
  have HF : Hid (∀ r, folM a b = r → (if a.lvl = b.lvl ∧ 0 < b.lvl then Op.bytesLess a.high.toList b.low.toList else decide (ordM a b < 0)) = r) := fun r h => h
  generalize hR : folM a b = R at HF ⊢
  replace hR := HF.out R rfl
  clear HF
  obtain ⟨ai, al, ac, alo, ahi⟩ := a
  obtain ⟨bi, bl, bc, blo, bhi⟩ := b
  unfold meBox at HU HO
  simp only at hR HU HO
  generalize ordM ⟨ai, al, ac, alo, ahi⟩ ⟨bi, bl, bc, blo, bhi⟩ = O at *
  unfold meV at HO ⊢
  simp only at HO ⊢
  have HB0 : Hid (Below w.heap.size w ((w.alloc (.cells #[.int .i64 ai, .int .i64 al, .int .i64 ac, .string alo, .string ahi] 148)).alloc (.cells #[.int .i64 bi, .int .i64 bl, .int .i64 bc, .string blo, .string bhi] 148))) := up_al (up_alloc _ _) _
  have HRR : Hid ((if al = bl ∧ 0 < bl then Op.bytesLess ahi.toList blo.toList else decide (O < 0)) = R) := hR
  clear hR
  by_cases h1 : al = bl
  · have h1' : (al == bl) = true := by simp [h1]
    by_cases h2 : 0 < bl
    · have HR2 : Hid (Op.bytesLess ahi.toList blo.toList = R) := by have := HRR.out; rw [if_pos ⟨h1, h2⟩] at this; exact this
      clear HRR HO h1
      go_enter Tryz.func115, Tryz.ntmps115
      go_wp2_with fail
      go_ret
      exact ⟨by rw [← HR2.out]; rfl, HB0⟩
    · have HR2 : Hid (decide (O < 0) = R) := by have := HRR.out; rw [if_neg (fun q => h2 q.2)] at this; exact this
      clear HRR h1
      go_enter Tryz.func115, Tryz.ntmps115
      go_wp2_with fail
      refine (HO.out _).mono ?_
      rintro e w1 ⟨rfl, hw1⟩
      have HB1 := hid (HU.out _ HB0.out)
      rw [← hw1] at HB1
      clear hw1
      go_wp2_with fail
      go_ret
      exact ⟨by rw [← HR2.out]; rfl, HB1⟩
  · have h1' : (al == bl) = false := by simp [h1]
    have HR2 : Hid (decide (O < 0) = R) := by have := HRR.out; rw [if_neg (fun q => h1 q.1)] at this; exact this
    clear HRR
    go_enter Tryz.func115, Tryz.ntmps115
    go_wp2_with fail
    refine (HO.out _).mono ?_
    rintro e w1 ⟨rfl, hw1⟩
    have HB1 := hid (HU.out _ HB0.out)
    rw [← hw1] at HB1
    clear hw1
    go_wp2_with fail
    go_ret
    exact ⟨by rw [← HR2.out]; rfl, HB1⟩
end Go.Proofs.YtnchjlimkgbfpaaGreatDoor
