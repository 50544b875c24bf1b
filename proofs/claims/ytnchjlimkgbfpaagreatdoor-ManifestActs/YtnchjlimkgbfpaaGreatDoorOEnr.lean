
import Derived.Test.YtnchjlimkgbfpaaGreatDoorNEnc
import Derived.Test.YtnchjlimkgbfpaaGreatDoorVRefPut
import Derived.Test.YtnchjlimkgbfpaaGreatDoorZ22
import Derived.Test.YtnchjlimkgbfpaaGreatDoorZ30
import Derived.Deep.RegionHeld3
namespace Go.Proofs.YtnchjlimkgbfpaaGreatDoor
open Go.RowKit
set_option linter.unusedVariables false
set_option linter.unusedSimpArgs false
set_option maxRecDepth 20000
def numsM : List Me → List Int
  | [] => []
  | m :: r => m.id :: m.lvl :: m.cnt :: numsM r
theorem numsM_app : ∀ l r : List Me, numsM (l ++ r) = numsM l ++ numsM r
  | [], r => rfl
  | x :: t, r => by simp only [List.cons_append, numsM, numsM_app t r]
theorem numsM_len : ∀ l : List Me, (numsM l).length = 3 * l.length
  | [] => rfl
  | x :: t => by simp only [numsM, List.length_cons, numsM_len t]; omega
theorem numsM_mem : ∀ (l : List Me) (y : Int), y ∈ numsM l → ∃ m ∈ l, y = m.id ∨ y = m.lvl ∨ y = m.cnt
  | [], y, h => by cases h
  | x :: t, y, h => by
    simp only [numsM, List.mem_cons] at h
    rcases h with h | h | h | h
    · exact ⟨x, List.mem_cons_self, .inl h⟩
    · exact ⟨x, List.mem_cons_self, .inr (.inl h)⟩
    · exact ⟨x, List.mem_cons_self, .inr (.inr h)⟩
    · obtain ⟨m, hm, q⟩ := numsM_mem t y h
      exact ⟨m, List.mem_cons_of_mem _ hm, q⟩
theorem numsM_in : ∀ (l : List Me) (m : Me), m ∈ l → m.id ∈ numsM l ∧ m.lvl ∈ numsM l ∧ m.cnt ∈ numsM l
  | [], m, h => by cases h
  | x :: t, m, h => by
    simp only [numsM, List.mem_cons]
    rcases List.mem_cons.1 h with rfl | h
    · exact ⟨.inl rfl, .inr (.inl rfl), .inr (.inr (.inl rfl))⟩
    · obtain ⟨a, b, c⟩ := numsM_in t m h
      exact ⟨.inr (.inr (.inr a)), .inr (.inr (.inr b)), .inr (.inr (.inr c))⟩
theorem enc_text {s n : Int} {is : List Int} {ms : List Me} (h1 : is.length ≤ 256) (h2 : ms.length ≤ 256) {m : Me} (hm : m ∈ ms) (h : ¬ (m.low.size ≤ 96 ∧ m.high.size ≤ 96)) : encE s n is ms = ([], 1) := by
  unfold encE
  rw [if_neg (by omega), if_neg]
  simp only [Bool.and_eq_true, List.all_eq_true]
  intro k
  exact h (metE_iff.1 (k.2.2.2 m hm)).2.2.2
theorem enc_num {s n : Int} {is : List Int} {ms : List Me} (h1 : is.length ≤ 256) (h2 : ms.length ≤ 256) {y : Int} (hy : y ∈ s :: n :: (is ++ numsM ms)) (h : numE y = false) : encE s n is ms = ([], 1) := by
  unfold encE
  rw [if_neg (by omega), if_neg]
  simp only [Bool.and_eq_true, List.all_eq_true]
  intro k
  have hf : numE y = true := by
    simp only [List.mem_cons, List.mem_append] at hy
    rcases hy with rfl | rfl | hy | hy
    · exact k.1
    · exact k.2.1
    · exact k.2.2.1 y hy
    · obtain ⟨m, hm, q⟩ := numsM_mem _ _ hy
      have q2 := metE_iff.1 (k.2.2.2 m hm)
      rcases q with rfl | rfl | rfl
      · exact numE_iff.2 q2.1
      · exact numE_iff.2 q2.2.1
      · exact numE_iff.2 q2.2.2.1
  rw [h] at hf
  cases hf
theorem enc_all {s n : Int} {is : List Int} {ms : List Me} (h1 : is.length ≤ 256) (h2 : ms.length ≤ 256) (ht : ∀ m ∈ ms, m.low.size ≤ 96 ∧ m.high.size ≤ 96) (hn : ∀ y ∈ s :: n :: (is ++ numsM ms), numE y = true) : (encE s n is ms).2 = 0 := by
  refine encE_zero.2 ⟨h1, h2, hn s List.mem_cons_self, hn n (List.mem_cons_of_mem _ List.mem_cons_self), fun i hi => hn i (by simp [hi]), fun m hm => ?_⟩
  obtain ⟨a, b, c⟩ := numsM_in ms m hm
  exact metE_iff.2 ⟨numE_iff.1 (hn _ (by simp [a])), numE_iff.1 (hn _ (by simp [b])), numE_iff.1 (hn _ (by simp [c])), (ht m hm).1, (ht m hm).2⟩
theorem ints_own (w : World) (l : List Int) (hm : l.length ≤ maxLen) : OwnR (w.alloc (.cells (l.map (Value.int .i64)).toArray 3)) w.heap.size 3 1 (.slice (some ⟨w.heap.size, 0, none⟩) l.length l.length) (l.map irow) := by
  have e1 : (l.map irow).flatten = l.map (Value.int .i64) := by
    clear hm
    induction l with
    | nil => rfl
    | cons x r ih => simp only [List.map_cons, List.flatten_cons, ih]; rfl
  refine ⟨by intro cs hcs; obtain ⟨x, _, rfl⟩ := List.mem_map.1 hcs; rfl, ?_⟩
  rw [e1, List.length_map]
  refine ⟨by simp, .inr ⟨w.heap.size, l.length, (l.map (Value.int .i64)).toArray, rfl, Nat.le_refl _, ?_, Nat.le_refl _, hm, by simp, ?_⟩⟩
  · show (w.heap.push _)[w.heap.size]? = _
    simp
  · rw [Nat.mul_one]
    exact List.take_of_length_le (by simp)
theorem number82_any (n : Int) (w : World) : Calls Tryz.prog 82 #[.int .i64 n] w fun e w' => e = .returned (.bool (numE n)) ∧ w' = w := by
  by_cases h1 : 0 ≤ n
  · by_cases h2 : n ≤ 1099511627776
    · have e : numE n = true := numE_iff.2 ⟨h1, h2⟩
      rw [e]
      go_enter Tryz.func82, Tryz.ntmps82
      go_wp2_with fail
      go_ret
      exact ⟨rfl, rfl⟩
    · have e : numE n = false := by unfold numE; simp; omega
      rw [e]
      go_enter Tryz.func82, Tryz.ntmps82
      go_wp2_with fail
      go_ret
      exact ⟨rfl, rfl⟩
  · have e : numE n = false := by unfold numE; simp; omega
    rw [e]
    go_enter Tryz.func82, Tryz.ntmps82
    go_wp2_with fail
    go_ret
    exact ⟨rfl, rfl⟩
theorem rows_shapeE {w : World} {base : Nat} {e : TypeId} {sz : Nat} {v : Value} {css : List (List Value)} (h : OwnR w base e sz v css) : ∃ a n c, v = .slice a n c ∧ Hid (OwnR w base e sz (.slice a n c) css) := by
  obtain ⟨a, c, e', _, _⟩ := (Rws.own h).len
  exact ⟨a, _, c, e', by rw [← e']; exact h⟩
def EncD (w : World) (r : List Int × Int) (e : Ending) (w' : World) : Prop := ∃ a n c, e = .returned (.tuple #[.slice a n c, .int .i64 r.2]) ∧ Hid (OwnB w' w.heap.size (.slice a n c) r.1) ∧ Hid (Below w.heap.size w w')
set_option maxHeartbeats 16000000 in
set_option maxRecDepth 100000 in
theorem refEncE_any (seq next : Int) (drop : List Int) (adds : List Me) (da aa : Option Addr) (dn dc an ac : Nat) (w : World) (hd : IntsR w (.slice da dn dc) drop) (ha : MetsR w (.slice aa an ac) adds) :
    Calls Tryz.prog 42 #[.agg #[.slice da dn dc, .slice aa an ac, .int .i64 seq, .int .i64 next]] w (EncD w (encE seq next drop adds)) := by
  obtain ⟨Post, hP⟩ : ∃ Post : Ending → World → Prop, Post = EncD w (encE seq next drop adds) := ⟨_, rfl⟩
  have HP : Hid (∀ e w', EncD w (encE seq next drop adds) e w' → Post e w') := fun e w' h => by rw [hP]; exact h
  rw [← hP]
  clear hP
  obtain ⟨da', dc', e', hd1, hd2⟩ := hd.len
  simp only [Value.slice.injEq] at e'
  obtain ⟨rfl, rfl, rfl⟩ := e'
  obtain ⟨aa', ac', e', ha1, ha2⟩ := ha.len
  simp only [Value.slice.injEq] at e'
  obtain ⟨rfl, rfl, rfl⟩ := e'
  have hd63 : (drop.length : Int) ≤ 9223372036854775807 := by unfold maxLen at hd2; omega
  have ha63 : (adds.length : Int) ≤ 9223372036854775807 := by unfold maxLen at ha2; omega
  have HD : Hid (IntsR w (.slice da drop.length dc) drop) := hd
  have HA : Hid (MetsR w (.slice aa adds.length ac) adds) := ha
  obtain ⟨w1, hw1⟩ : ∃ w1, w1 = w.alloc (.cells #[.slice da drop.length dc, .slice aa adds.length ac, .int .i64 seq, .int .i64 next] 31) := ⟨_, rfl⟩
  have HW1 : Hid (w.alloc (.cells #[.slice da drop.length dc, .slice aa adds.length ac, .int .i64 seq, .int .i64 next] 31) = w1) := hid hw1.symm
  have U1 : Hid (Below w.heap.size w w1) := by rw [hw1]; exact up_alloc _ _
  have B1 : Hid (w1.heap[w.heap.size]? = some (.cells #[.slice da drop.length dc, .slice aa adds.length ac, .int .i64 seq, .int .i64 next] 31)) := by rw [hw1]; exact blk_new _ _
  clear hd ha hd1 hd2 ha1 ha2 hw1
  have HCE : Hid (∀ W, Below w1.heap.size w1 W → W.cell? ⟨w.heap.size, 0, none⟩ = some (.slice da drop.length dc) ∧ W.cell? ⟨w.heap.size, 1, none⟩ = some (.slice aa adds.length ac) ∧ W.cell? ⟨w.heap.size, 2, none⟩ = some (.int .i64 seq) ∧ W.cell? ⟨w.heap.size, 3, none⟩ = some (.int .i64 next)) := fun W h => have g := blk_up B1.out h; ⟨blk_cell g 0 _ rfl, blk_cell g 1 _ rfl, blk_cell g 2 _ rfl, blk_cell g 3 _ rfl⟩
  obtain ⟨c0, c1, c2, c3⟩ := HCE.out w1 (Below.refl _ _)
  by_cases hq1 : 256 < drop.length
  case pos =>
    have hq1' : (256 : Int) < (drop.length : Int) := by omega
    have HE : Hid (encE seq next drop adds = ([], 3)) := by unfold Hid encE; rw [if_pos (.inl hq1)]
    clear hq1
    go_enter Tryz.func42, Tryz.ntmps42
    go_upto_region 1 with fail
    rw [HW1.out]
    go_wp2_with fail
    try go_ret2
    refine HP.out _ _ ?_
    rw [HE.out]
    exact ⟨_, _, _, rfl, OwnB.nil _ _, U1⟩
  by_cases hq2 : 256 < adds.length
  case pos =>
    have hq1' : ¬ (256 : Int) < (drop.length : Int) := by omega
    have hq2' : (256 : Int) < (adds.length : Int) := by omega
    have HE : Hid (encE seq next drop adds = ([], 3)) := by unfold Hid encE; rw [if_pos (.inr hq2)]
    clear hq1 hq2
    go_enter Tryz.func42, Tryz.ntmps42
    go_upto_region 1 with fail
    rw [HW1.out]
    go_wp2_with fail
    try go_ret2
    refine HP.out _ _ ?_
    rw [HE.out]
    exact ⟨_, _, _, rfl, OwnB.nil _ _, U1⟩
  have hl1 : drop.length ≤ 256 := by omega
  have hl2 : adds.length ≤ 256 := by omega
  have HL := hid (And.intro hl1 hl2)
  have HT1 : Hid (∀ m ∈ adds, ¬ (m.low.size ≤ 96 ∧ m.high.size ≤ 96) → encE seq next drop adds = ([], 1)) := fun m hm h => enc_text hl1 hl2 hm h
  have HN1 : Hid (∀ y ∈ seq :: next :: (drop ++ numsM adds), numE y = false → encE seq next drop adds = ([], 1)) := fun y hy h => enc_num hl1 hl2 hy h
  have HG1 : Hid ((∀ m ∈ adds, m.low.size ≤ 96 ∧ m.high.size ≤ 96) → (∀ y ∈ seq :: next :: (drop ++ numsM adds), numE y = true) → (encE seq next drop adds).2 = 0) := fun h h2 => enc_all hl1 hl2 h h2
  have hq1' : ¬ (256 : Int) < (drop.length : Int) := by omega
  have hq2' : ¬ (256 : Int) < (adds.length : Int) := by omega
  clear hq1 hq2 hl1 hl2
  have I1 : Hid (OwnR (w1.alloc (.cells #[.int .i64 seq, .int .i64 next] 3)) w1.heap.size 3 1 (.slice (some ⟨w1.heap.size, 0, none⟩) 2 2) ([seq, next].map irow)) := ints_own w1 [seq, next] (by simp [maxLen])
  have I2 : Hid (Rws 1 (w1.alloc (.cells #[.int .i64 seq, .int .i64 next] 3)) (.slice da drop.length dc) (drop.map irow)) := HD.out.up (up_al U1.out _)
  have HO1 : Hid (∀ cs ∈ drop.map irow, ∀ u ∈ cs, u.oneCell' = true) := one_int drop
  have HB1 : Hid (((([seq, next].map irow).length + (drop.map irow).length) + (([seq, next].map irow).length + (drop.map irow).length) / 4 + 192) * 8 ≤ 281474976710656 ∧ ([seq, next].map irow).length + (drop.map irow).length ≤ maxLen) := by
    have := HL.out
    unfold Hid maxLen
    simp only [List.length_map, List.length_cons, List.length_nil]
    omega
  have S1 : Hid (w1.heap.size ≤ (w1.alloc (.cells #[.int .i64 seq, .int .i64 next] 3)).heap.size) := (up_alloc _ _).size
  have V1 : Hid (Below w1.heap.size w1 (w1.alloc (.cells #[.int .i64 seq, .int .i64 next] 3))) := up_alloc _ _
  obtain ⟨c0', c1', -, -⟩ := HCE.out _ V1.out
  go_enter Tryz.func42, Tryz.ntmps42
  go_upto_region 1 with fail
  rw [HW1.out]
  clear HW1
  go_upto_region 5 with (at_builtin; refine wpList_append_rows _ rfl _ _ 29 3 _ 1 8 rfl Tryz.underlying29 Tryz.info3 rfl (by decide) w1.heap.size (.slice (some ⟨w1.heap.size, 0, none⟩) 2 2) ([seq, next].map irow) rfl I1.out (.slice da drop.length dc) (drop.map irow) rfl I2.out HO1.out HB1.out.1 HB1.out.2 S1.out ?_; intro v4 w4 o4 g4)
  have U4 : Hid (Below w1.heap.size w1 w4) := V1.out.grown g4 S1.out (fun k hk => (I1.out.2.lt k hk).1)
  have O4 : Hid (OwnR w4 w1.heap.size 3 1 v4 ((seq :: next :: drop).map irow)) := by
    have q := o4
    rw [← List.map_append] at q
    exact q
  obtain ⟨a4, n4, k4, e4, O4⟩ := rows_shapeE O4.out
  subst e4
  clear o4 g4 c0 c1 c2 c3 c0' c1' I1 I2 HO1 HB1 S1 V1 hq1' hq2'
  obtain ⟨L0, hL0⟩ : ∃ L0, L0 = seq :: next :: drop := ⟨_, rfl⟩
  have HL0 : Hid (L0.length ≤ 258) := by rw [hL0]; have := HL.out; unfold Hid; simp only [List.length_cons]; omega
  have HLe : Hid (L0 ++ numsM adds = seq :: next :: (drop ++ numsM adds)) := by rw [hL0]; rfl
  rw [← hL0] at O4
  clear hL0
  rw [← HLe.out] at HN1 HG1
  go_wp2_with fail
  go_loopw [4, 5] (fun s4 s5 wr => ∃ (k : Nat) (a : Option Addr) (n c : Nat), k ≤ adds.length ∧ s5 = .int .i64 (k : Int) ∧ s4 = .slice a n c ∧ Hid (∀ m ∈ adds.take k, m.low.size ≤ 96 ∧ m.high.size ≤ 96) ∧ Hid (OwnR wr w1.heap.size 3 1 (.slice a n c) ((L0 ++ numsM (adds.take k)).map irow)) ∧ Hid (Below w1.heap.size w1 wr)) (fun _ s5 _ => adds.length - (intOf s5).toNat)
  case atStart => exact ⟨0, _, _, _, Nat.zero_le _, rfl, rfl, (fun m hm => by simp at hm), by simpa [Hid, numsM] using O4.out, U4⟩
  case round =>
    clear O4 U4
    obtain ⟨k, a, n, c, hk, rfl, rfl, HTx, HO, HU⟩ := hrel
    obtain ⟨-, c1, -, -⟩ := HCE.out _ HU.out
    by_cases hlt : k < adds.length
    · have hlt' : (k : Int) < (adds.length : Int) := by omega
      obtain ⟨b, off, cap, x, e, hx, x0, x1, x2, x3, x4⟩ := ((HA.out.up U1.out).up HU.out).at k hlt
      simp at e
      obtain ⟨rfl, rfl⟩ := e
      have HX := hid (List.mem_of_getElem? hx)
      have HTK : Hid ((L0 ++ numsM (adds.take k)).map irow ++ [x.id, x.lvl, x.cnt].map irow = (L0 ++ numsM (adds.take (k + 1))).map irow) := by
        unfold Hid
        rw [List.take_add_one, hx, numsM_app, ← List.map_append]
        simp [numsM]
      have HTk : Hid (x.low.size ≤ 96 ∧ x.high.size ≤ 96 → ∀ m ∈ adds.take (k + 1), m.low.size ≤ 96 ∧ m.high.size ≤ 96) := by
        intro q m hm
        rw [List.take_add_one, hx] at hm
        rcases List.mem_append.1 hm with h | h
        · exact HTx.out m h
        · simp at h; subst h; exact q
      have HNn : Hid ((L0 ++ numsM (adds.take k)).length ≤ 1100) := by
        have := HL0.out
        have := HL.out
        unfold Hid
        rw [List.length_append, numsM_len, List.length_take]
        omega
      generalize hLL : (L0 ++ numsM (adds.take k)) = LL at *
      clear hx hLL HTx
      obtain ⟨w5, hw5⟩ : ∃ w5, w5 = wr.alloc (.cells #[.int .i64 x.id, .int .i64 x.lvl, .int .i64 x.cnt, .string x.low, .string x.high] 139) := ⟨_, rfl⟩
      have HW5 : Hid (wr.alloc (.cells #[.int .i64 x.id, .int .i64 x.lvl, .int .i64 x.cnt, .string x.low, .string x.high] 139) = w5) := hid hw5.symm
      have V5 : Hid (Below wr.heap.size wr w5) := by rw [hw5]; exact up_alloc _ _
      have B5 : Hid (w5.heap[wr.heap.size]? = some (.cells #[.int .i64 x.id, .int .i64 x.lvl, .int .i64 x.cnt, .string x.low, .string x.high] 139)) := by rw [hw5]; exact blk_new _ _
      have U5 : Hid (Below w1.heap.size w1 w5) := up_trans HU.out V5.out
      have O5 := hid (HO.out.up V5.out)
      clear hw5
      go_upto_region 9 with fail
      rw [HW5.out]
      clear HW5 x0 x1 x2 x3 x4 c1 HO HU
      have m0 := blk_cell B5.out 0 _ rfl
      have m1 := blk_cell B5.out 1 _ rfl
      have m2 := blk_cell B5.out 2 _ rfl
      have O5a : Hid (OwnR (w5.alloc (.cells #[.int .i64 x.id, .int .i64 x.lvl, .int .i64 x.cnt] 3)) w1.heap.size 3 1 (.slice a n c) (LL.map irow)) := O5.out.up (up_alloc _ _)
      have I3 : Hid (Rws 1 (w5.alloc (.cells #[.int .i64 x.id, .int .i64 x.lvl, .int .i64 x.cnt] 3)) (.slice (some ⟨w5.heap.size, 0, none⟩) 3 3) ([x.id, x.lvl, x.cnt].map irow)) := ints_made w5 3 [x.id, x.lvl, x.cnt] (by simp [maxLen])
      have HO3 : Hid (∀ cs ∈ [x.id, x.lvl, x.cnt].map irow, ∀ u ∈ cs, u.oneCell' = true) := one_int _
      have HB3 : Hid ((((LL.map irow).length + ([x.id, x.lvl, x.cnt].map irow).length) + ((LL.map irow).length + ([x.id, x.lvl, x.cnt].map irow).length) / 4 + 192) * 8 ≤ 281474976710656 ∧ (LL.map irow).length + ([x.id, x.lvl, x.cnt].map irow).length ≤ maxLen) := by
        have := HNn.out
        unfold Hid maxLen
        simp only [List.length_map, List.length_cons, List.length_nil]
        omega
      have U5a : Hid (Below w1.heap.size w1 (w5.alloc (.cells #[.int .i64 x.id, .int .i64 x.lvl, .int .i64 x.cnt] 3))) := up_al U5.out _
      have B5a : Hid ((w5.alloc (.cells #[.int .i64 x.id, .int .i64 x.lvl, .int .i64 x.cnt] 3)).heap[wr.heap.size]? = some (.cells #[.int .i64 x.id, .int .i64 x.lvl, .int .i64 x.cnt, .string x.low, .string x.high] 139)) := blk_up B5.out (up_alloc _ _)
      clear O5 U5 B5
      go_upto_region 10 with (at_builtin; refine wpList_append_rows _ rfl _ _ 29 3 _ 1 8 rfl Tryz.underlying29 Tryz.info3 rfl (by decide) w1.heap.size (.slice a n c) (LL.map irow) rfl O5a.out (.slice (some ⟨w5.heap.size, 0, none⟩) 3 3) ([x.id, x.lvl, x.cnt].map irow) rfl I3.out HO3.out HB3.out.1 HB3.out.2 U5a.out.size ?_; intro v6 w6 o6 g6)
      have U6 : Hid (Below w1.heap.size w1 w6) := U5a.out.grown g6 U5a.out.size (fun k hk => (O5a.out.2.lt k hk).1)
      have B6 : Hid (w6.heap[wr.heap.size]? = some (.cells #[.int .i64 x.id, .int .i64 x.lvl, .int .i64 x.cnt, .string x.low, .string x.high] 139)) := blk_grown B5a.out g6 (fun q => (own_blk_ne O5a.out.2 B5a.out (by decide)).elim (fun h => by rw [h] at q; cases q) (fun h => h q.symm))
      have O6 : Hid (OwnR w6 w1.heap.size 3 1 v6 ((L0 ++ numsM (adds.take (k + 1))).map irow)) := by
        rw [← HTK.out]
        exact o6
      obtain ⟨a6, n6, c6, e6, O6⟩ := rows_shapeE O6.out
      subst e6
      clear o6 g6 m0 m1 m2 O5a I3 HO3 HB3 U5a B5a HTK
      have m3 := blk_cell B6.out 3 _ rfl
      have m4 := blk_cell B6.out 4 _ rfl
      by_cases hs1 : x.low.size ≤ 96
      · have hs1' : ¬ (96 : Int) < (x.low.size : Int) := by omega
        by_cases hs2 : x.high.size ≤ 96
        · have hs2' : ¬ (96 : Int) < (x.high.size : Int) := by omega
          have HTn := hid (HTk.out ⟨hs1, hs2⟩)
          clear hs1 hs2 HTk
          go_wp2_with fail
          exact ⟨⟨k + 1, a6, n6, c6, by omega, by go_num, rfl, HTn, O6, U6⟩, by simp [intOf]; omega⟩
        · have hs2' : (96 : Int) < (x.high.size : Int) := by omega
          have HE := hid (HT1.out x HX.out (by omega))
          clear hs1 hs2 HTk
          go_wp2_with fail
          try go_ret2
          refine HP.out _ _ ?_
          rw [HE.out]
          exact ⟨_, _, _, rfl, OwnB.nil _ _, U1.out.trans (U6.out.mono U1.out.size)⟩
      · have hs1' : (96 : Int) < (x.low.size : Int) := by omega
        have HE := hid (HT1.out x HX.out (by omega))
        clear hs1 HTk
        go_wp2_with fail
        try go_ret2
        refine HP.out _ _ ?_
        rw [HE.out]
        exact ⟨_, _, _, rfl, OwnB.nil _ _, U1.out.trans (U6.out.mono U1.out.size)⟩
    · have hlt' : ¬ (k : Int) < (adds.length : Int) := by omega
      have hkl : k = adds.length := by omega
      subst hkl
      have HTx2 : Hid (∀ m ∈ adds, m.low.size ≤ 96 ∧ m.high.size ≤ 96) := by
        have := HTx.out
        rw [List.take_length] at this
        exact this
      have HO2 : Hid (OwnR wr w1.heap.size 3 1 (.slice a n c) ((L0 ++ numsM adds).map irow)) := by
        have := HO.out
        rw [List.take_length] at this
        exact this
      have HG2 := hid (HG1.out HTx2.out)
      have HIR : Hid (IntsR wr (.slice a n c) (L0 ++ numsM adds)) := Rws.own HO2.out
      generalize hM : L0 ++ numsM adds = M at *
      obtain ⟨aM, cM, eM, hm1, hm2⟩ := HIR.out.len
      simp only [Value.slice.injEq] at eM
      obtain ⟨rfl, rfl, rfl⟩ := eM
      have hM63 : (M.length : Int) ≤ 9223372036854775807 := by unfold maxLen at hm2; omega
      clear hM hm1 hm2 HTx HO HT1 HG1 HLe
      go_wp2_with fail
      clear c1
      go_loopw [7] (fun s7 wq => ∃ k : Nat, k ≤ M.length ∧ s7 = .int .i64 (k : Int) ∧ wq = wr ∧ Hid (∀ y ∈ M.take k, numE y = true)) (fun s7 _ => M.length - (intOf s7).toNat)
      case atStart => exact ⟨0, Nat.zero_le _, rfl, rfl, fun y hy => by simp at hy⟩
      case round =>
        obtain ⟨j, hj, rfl, rfl, HNk⟩ := hrel
        by_cases hjl : j < M.length
        · have hjl' : (j : Int) < (M.length : Int) := by omega
          obtain ⟨b, off, cap, y, e, hy, y0⟩ := HIR.out.elt j hjl
          simp at e
          obtain ⟨rfl, rfl⟩ := e
          have HY := hid (List.mem_of_getElem? hy)
          have HNn : Hid (numE y = true → ∀ z ∈ M.take (j + 1), numE z = true) := by
            intro q z hz
            rw [List.take_add_one, hy] at hz
            rcases List.mem_append.1 hz with h | h
            · exact HNk.out z h
            · simp at h; subst h; exact q
          clear hy
          go_wp2_with fail
          refine (number82_any y _).mono ?_
          rintro e wN ⟨rfl, hwN⟩
          have hwN := hwN.symm
          subst hwN
          cases hb : numE y with
          | true =>
            have HNx := hid (HNn.out hb)
            clear hb
            go_wp2_with fail
            exact ⟨⟨j + 1, by omega, by go_num, by first | rfl | trivial, HNx⟩, by simp [intOf]; omega⟩
          | false =>
            have HE := hid (HN1.out y HY.out hb)
            clear hb
            go_wp2_with fail
            try go_ret2
            refine HP.out _ _ ?_
            rw [HE.out]
            exact ⟨_, _, _, rfl, OwnB.nil _ _, U1.out.trans (HU.out.mono U1.out.size)⟩
        · have hjl' : ¬ (j : Int) < (M.length : Int) := by omega
          have hz0 : (encE seq next drop adds).2 = 0 := HG2.out (by have := HNk.out; rw [List.take_of_length_le (by omega)] at this; exact this)
          obtain ⟨-, -, hsq, hnx, hids, hms⟩ := encE_zero.1 hz0
          have HEg : Hid (encE seq next drop adds = (edO seq next drop adds, 0)) := encE_good hz0
          have HID : Hid (∀ i ∈ drop, numE i = true) := hids
          have HMS : Hid (∀ m ∈ adds, metE m = true) := hms
          have hsq' := numE_iff.1 hsq
          have hnx' := numE_iff.1 hnx
          clear hz0 hids hms hsq hnx HNk HG2 HN1 HO2 HIR
          have g2 : IntKind.u64.wrap seq = seq := wrap_u64_id _ (by omega) (by omega)
          have g3 : IntKind.u64.wrap next = next := wrap_u64_id _ (by omega) (by omega)
          have g4 : IntKind.u64.wrap (drop.length : Int) = (drop.length : Int) := wrap_u64_id _ (by omega) (by have := HL.out; omega)
          have g5 : IntKind.u64.wrap (adds.length : Int) = (adds.length : Int) := wrap_u64_id _ (by omega) (by have := HL.out; omega)
          have HX2 : Hid (∀ x ∈ octets next, 0 ≤ x ∧ x ≤ 255) := (octets_form _ (by omega) (by omega)).octet
          have HL3 : Hid ((octets seq).length + (octets next).length ≤ 140737488355328) := by have := octets_lenE seq; have := octets_lenE next; unfold Hid; omega
          obtain ⟨-, -, z0, z1⟩ := HCE.out _ HU.out
          have HQ1 : Hid (Calls Tryz.prog 83 #[.int .u64 seq] wr.drew fun e w' => ∃ a2 n2 c2, e = .returned (.slice a2 n2 c2) ∧ w'.cell? ⟨w.heap.size, 2, none⟩ = some (.int .i64 seq) ∧ w'.cell? ⟨w.heap.size, 3, none⟩ = some (.int .i64 next) ∧ Hid (OwnB w' w1.heap.size (.slice a2 n2 c2) (octets seq)) ∧ Hid (Below w1.heap.size w1 w')) := by
            refine (refPut_any seq wr.drew (by omega) (by omega)).mono ?_
            rintro e w' ⟨v, rfl, ho, hb⟩
            obtain ⟨a2, n2, c2, rfl⟩ := ownB_shape ho
            have hb' : Below w1.heap.size w1 w' := up_trans (up_dr HU.out) hb
            obtain ⟨-, -, r0, r1⟩ := HCE.out _ hb'
            exact ⟨a2, n2, c2, rfl, r0, r1, ownB_mono ho (up_dr HU.out).size, hb'⟩
          have HQ2 : Hid (∀ (wx : World) (a2 : Option Addr) (n2 c2 : Nat), OwnB wx w1.heap.size (.slice a2 n2 c2) (octets seq) → Below w1.heap.size w1 wx → Calls Tryz.prog 83 #[.int .u64 next] wx fun e w' => ∃ a3 n3 c3, e = .returned (.slice a3 n3 c3) ∧ w'.cell? ⟨w.heap.size, 2, none⟩ = some (.int .i64 seq) ∧ w'.cell? ⟨w.heap.size, 3, none⟩ = some (.int .i64 next) ∧ Hid (OwnB w' w1.heap.size (.slice a2 n2 c2) (octets seq)) ∧ Hid (Octs w' (.slice a3 n3 c3) (octets next)) ∧ Hid (w1.heap.size ≤ w'.heap.size) ∧
              Hid (∀ w5, w'.grownBy w5 (Value.slice a2 n2 c2).ownBlock → w5.cell? ⟨w.heap.size, 2, none⟩ = some (.int .i64 seq) ∧ w5.cell? ⟨w.heap.size, 3, none⟩ = some (.int .i64 next) ∧ Below w1.heap.size w1 w5)) := by
            intro wx a2 n2 c2 ho hu
            refine (refPut_any next wx (by omega) (by omega)).mono ?_
            rintro e w' ⟨v, rfl, ho3, hb⟩
            obtain ⟨a3, n3, c3, rfl⟩ := ownB_shape ho3
            have ho' : OwnB w' w1.heap.size (.slice a2 n2 c2) (octets seq) := own_up ho hb
            have hu' := up_trans hu hb
            obtain ⟨-, -, r0, r1⟩ := HCE.out _ hu'
            refine ⟨a3, n3, c3, rfl, r0, r1, ho', Octs.own ho3 HX2.out, hu'.size, fun w5 g5 => ?_⟩
            have hu5 : Below w1.heap.size w1 w5 := hu'.grown g5 hu'.size (fun j hj => (ho'.lt j hj).1)
            obtain ⟨-, -, r0, r1⟩ := HCE.out _ hu5
            exact ⟨r0, r1, hu5⟩
          go_wp2_with fail
          go_region_held3 (fun w' => w'.cell? ⟨w.heap.size, 2, none⟩ = some (.int .i64 seq) ∧ w'.cell? ⟨w.heap.size, 3, none⟩ = some (.int .i64 next)) (first | with_reducible exact ⟨x0, x1⟩ | with_reducible exact ⟨t0, t1⟩ | with_reducible exact ⟨y0, y1⟩ | with_reducible exact ⟨z0, z1⟩ | (simp [go_sem, z0, z1]; done)) (first
            | (go_at_call 83; with_reducible refine HQ1.out.mono ?_; rintro e w2 ⟨a2, n2, c2, rfl, y0, y1, O2, U2⟩)
            | (go_at_call 83; with_reducible refine (HQ2.out _ _ _ _ O2.out U2.out).mono ?_; rintro e w3 ⟨a3, n3, c3, rfl, t0, t1, O3, P3, S3, F3⟩)
            | (refine step_append_octs _ (by rfl) _ _ (by rfl) w1.heap.size (.slice a2 n2 c2) (octets seq) (by rfl) O3.out (.slice a3 n3 c3) (octets next) (by rfl) P3.out HL3.out S3.out ?_; intro v4 w4 o4 g4'; obtain ⟨x0, x1, U4'⟩ := F3.out _ g4'; obtain ⟨a4, n4, c4, rfl⟩ := ownB_shape o4; have G4 : Hid (w3.heap.size ≤ w4.heap.size) := g4'.size))
          all_goals
            have O4 : Hid (OwnB w4 w1.heap.size (.slice a4 n4 c4) (octets seq ++ octets next)) := by first | exact o4 | (unfold Hid; simpa only [List.append_assoc] using o4)
            have U4 : Hid (Below w1.heap.size w1 w4) := U4'
            clear o4 g4' U4' O3 P3 S3 F3 O2 U2 HU HQ1 HQ2 t0 t1 y0 y1 z0 z1 x0 x1 HX2 HL3 G4
            obtain ⟨c0, -, -, -⟩ := HCE.out _ U4.out
            go_wp2_with fail
            refine (refPut_any (drop.length : Int) w4 (by omega) (by omega)).mono ?_
            rintro e pA ⟨vpA, rfl, opA, bpA⟩
            obtain ⟨apA, npA, cpA, rfl⟩ := ownB_shape opA
            have PPA : Hid (Octs pA (.slice apA npA cpA) (octets (drop.length : Int))) := Octs.own opA ((octets_form _ (by omega) (by omega)).octet)
            have OPA : Hid (OwnB pA w1.heap.size (.slice a4 n4 c4) (octets seq ++ octets next)) := own_up O4.out bpA
            have UPA : Hid (Below w1.heap.size w1 pA) := up_trans U4.out bpA
            have HBA : Hid ((octets seq ++ octets next).length + (octets (drop.length : Int)).length ≤ 140737488355328) := by have := octets_lenE seq; have := octets_lenE next; have := octets_lenE (drop.length : Int); have := octets_lenE (adds.length : Int); unfold Hid; (try simp only [List.length_append]); omega
            clear opA bpA O4 U4
            go_wp2_with (at_builtin; refine wpList_append_octs _ rfl _ _ rfl w1.heap.size (.slice a4 n4 c4) (octets seq ++ octets next) rfl OPA.out (.slice apA npA cpA) (octets (drop.length : Int)) rfl PPA.out HBA.out UPA.out.size ?_)
            intro vA wA oA gA
            obtain ⟨aA, nA, cA, rfl⟩ := ownB_shape oA
            have OA : Hid (OwnB wA w1.heap.size (.slice aA nA cA) ((octets seq ++ octets next) ++ octets (drop.length : Int))) := by first | exact oA | (unfold Hid; simpa only [List.append_assoc] using oA)
            have UA : Hid (Below w1.heap.size w1 wA) := UPA.out.grown gA UPA.out.size (fun j hj => (OPA.out.lt j hj).1)
            clear oA gA PPA OPA UPA HBA
            clear c0
            have OA2 : Hid (OwnB wA w1.heap.size (.slice aA nA cA) (((octets seq ++ octets next) ++ octets (drop.length : Int)) ++ idsO (drop.take 0))) := by
              have := OA.out
              simpa [Hid, idsO] using this
            clear OA
            obtain ⟨L1, hL1⟩ : ∃ L1, L1 = (octets seq ++ octets next) ++ octets (drop.length : Int) := ⟨_, rfl⟩
            have HL1 : Hid (L1.length ≤ 27) := by rw [hL1]; have := octets_lenE seq; have := octets_lenE next; have := octets_lenE (drop.length : Int); have := octets_lenE (adds.length : Int); unfold Hid; (try simp only [List.length_append]); omega
            have HL1e := hid hL1
            rw [← hL1] at OA2
            clear hL1
            go_wp2_with fail
            go_loopw [8, 9] (fun s8 s9 wr => ∃ (k : Nat) (a : Option Addr) (n c : Nat), k ≤ drop.length ∧ s9 = .int .i64 (k : Int) ∧ s8 = .slice a n c ∧ Hid (OwnB wr w1.heap.size (.slice a n c) (L1 ++ idsO (drop.take k))) ∧ Hid (Below w1.heap.size w1 wr)) (fun _ s9 _ => drop.length - (intOf s9).toNat)
            case atStart => exact ⟨0, _, _, _, Nat.zero_le _, rfl, rfl, OA2, UA⟩
            case round =>
              clear OA2 UA
              obtain ⟨k, aq, nq, cq, hk, rfl, rfl, HO, HUx⟩ := hrel
              obtain ⟨c0, c1, -, -⟩ := HCE.out _ HUx.out
              by_cases hlt2 : k < drop.length
              · have hlt2' : (k : Int) < (drop.length : Int) := by omega
                obtain ⟨b, off, cap, y, e, hy, y0⟩ := ((HD.out.up U1.out).up HUx.out).elt k hlt2
                simp at e
                obtain ⟨rfl, rfl⟩ := e
                have hyn := numE_iff.1 (HID.out y (List.mem_of_getElem? hy))
                have HTK : Hid ((L1 ++ idsO (drop.take k)) ++ octets y = L1 ++ idsO (drop.take (k + 1))) := by
                  unfold Hid
                  rw [List.take_add_one, hy, idsO_app]
                  simp [idsO]
                have HLN : Hid ((L1 ++ idsO (drop.take k)).length ≤ 3000) := by
                  have h1 := idsO_len (drop.take k)
                  have h2 := HL1.out
                  have h3 := HL.out
                  rw [List.length_take] at h1
                  unfold Hid
                  rw [List.length_append]
                  omega
                generalize L1 ++ idsO (drop.take k) = LL at *
                clear hy
                have gy : IntKind.u64.wrap y = y := wrap_u64_id _ (by omega) (by omega)
                go_wp2_with fail
                refine (refPut_any y wr (by omega) (by omega)).mono ?_
                rintro e pB ⟨vpB, rfl, opB, bpB⟩
                obtain ⟨apB, npB, cpB, rfl⟩ := ownB_shape opB
                have PPB : Hid (Octs pB (.slice apB npB cpB) (octets y)) := Octs.own opB ((octets_form _ (by omega) (by omega)).octet)
                have OPB : Hid (OwnB pB w1.heap.size (.slice aq nq cq) (LL)) := own_up HO.out bpB
                have UPB : Hid (Below w1.heap.size w1 pB) := up_trans HUx.out bpB
                have HBB : Hid ((LL).length + (octets y).length ≤ 140737488355328) := by have := HLN.out; have := octets_lenE y; unfold Hid; omega
                clear opB bpB HO HUx
                go_wp2_with (at_builtin; refine wpList_append_octs _ rfl _ _ rfl w1.heap.size (.slice aq nq cq) (LL) rfl OPB.out (.slice apB npB cpB) (octets y) rfl PPB.out HBB.out UPB.out.size ?_)
                intro vB wB oB gB
                obtain ⟨aB, nB, cB, rfl⟩ := ownB_shape oB
                have OB : Hid (OwnB wB w1.heap.size (.slice aB nB cB) ((LL) ++ octets y)) := by first | exact oB | (unfold Hid; simpa only [List.append_assoc] using oB)
                have UB : Hid (Below w1.heap.size w1 wB) := UPB.out.grown gB UPB.out.size (fun j hj => (OPB.out.lt j hj).1)
                clear oB gB PPB OPB UPB HBB
                go_wp2_with fail
                exact ⟨⟨k + 1, _, _, _, by omega, by go_num, rfl, by rw [← HTK.out]; exact OB, UB⟩, by simp [intOf]; omega⟩
              · have hlt2' : ¬ (k : Int) < (drop.length : Int) := by omega
                have HO2 : Hid (OwnB wr w1.heap.size (.slice aq nq cq) (L1 ++ idsO drop)) := by
                  have := HO.out
                  rw [List.take_of_length_le (by omega)] at this
                  exact this
                have HLD : Hid ((L1 ++ idsO drop).length ≤ 3000) := by
                  have h1 := idsO_len drop
                  have h2 := HL1.out
                  have h3 := HL.out
                  unfold Hid
                  rw [List.length_append]
                  omega
                clear HO
                skip
                go_wp2_with fail
                refine (refPut_any (adds.length : Int) wr (by omega) (by omega)).mono ?_
                rintro e pC ⟨vpC, rfl, opC, bpC⟩
                obtain ⟨apC, npC, cpC, rfl⟩ := ownB_shape opC
                have PPC : Hid (Octs pC (.slice apC npC cpC) (octets (adds.length : Int))) := Octs.own opC ((octets_form _ (by omega) (by omega)).octet)
                have OPC : Hid (OwnB pC w1.heap.size (.slice aq nq cq) (L1 ++ idsO drop)) := own_up HO2.out bpC
                have UPC : Hid (Below w1.heap.size w1 pC) := up_trans HUx.out bpC
                have HBC : Hid ((L1 ++ idsO drop).length + (octets (adds.length : Int)).length ≤ 140737488355328) := by have := HLD.out; have := octets_lenE (adds.length : Int); unfold Hid; omega
                clear opC bpC HO2 HUx
                go_wp2_with (at_builtin; refine wpList_append_octs _ rfl _ _ rfl w1.heap.size (.slice aq nq cq) (L1 ++ idsO drop) rfl OPC.out (.slice apC npC cpC) (octets (adds.length : Int)) rfl PPC.out HBC.out UPC.out.size ?_)
                intro vC wC oC gC
                obtain ⟨aC, nC, cC, rfl⟩ := ownB_shape oC
                have OC : Hid (OwnB wC w1.heap.size (.slice aC nC cC) ((L1 ++ idsO drop) ++ octets (adds.length : Int))) := by first | exact oC | (unfold Hid; simpa only [List.append_assoc] using oC)
                have UC : Hid (Below w1.heap.size w1 wC) := UPC.out.grown gC UPC.out.size (fun j hj => (OPC.out.lt j hj).1)
                clear oC gC PPC OPC UPC HBC
                clear c0 c1
                have OC2 : Hid (OwnB wC w1.heap.size (.slice aC nC cC) (((L1 ++ idsO drop) ++ octets (adds.length : Int)) ++ metsO (adds.take 0))) := by
                  have := OC.out
                  simpa [Hid, metsO] using this
                have HED : Hid (((L1 ++ idsO drop) ++ octets (adds.length : Int)) ++ metsO adds = edO seq next drop adds) := by
                  unfold Hid
                  rw [HL1e.out]
                  unfold edO
                  simp
                have HL2 : Hid (((L1 ++ idsO drop) ++ octets (adds.length : Int)).length ≤ 3009) := by
                  have := HLD.out
                  have := octets_lenE (adds.length : Int)
                  unfold Hid
                  rw [List.length_append]
                  omega
                generalize (L1 ++ idsO drop) ++ octets (adds.length : Int) = L2 at *
                clear OC HLD HL1e HL1
                go_wp2_with fail
                go_loopw [8, 10] (fun s8 s10 wr => ∃ (k : Nat) (a : Option Addr) (n c : Nat), k ≤ adds.length ∧ s10 = .int .i64 (k : Int) ∧ s8 = .slice a n c ∧ Hid (OwnB wr w1.heap.size (.slice a n c) (L2 ++ metsO (adds.take k))) ∧ Hid (Below w1.heap.size w1 wr)) (fun _ s10 _ => adds.length - (intOf s10).toNat)
                case atStart => exact ⟨0, _, _, _, Nat.zero_le _, rfl, rfl, OC2, UC⟩
                case round =>
                  clear OC2 UC
                  obtain ⟨k, ar, nr, cr, hk3, rfl, rfl, HOr, HUy⟩ := hrel
                  obtain ⟨-, c1, -, -⟩ := HCE.out _ HUy.out
                  by_cases hlt3 : k < adds.length
                  · have hlt3' : (k : Int) < (adds.length : Int) := by omega
                    obtain ⟨b, off, cap, x, e, hx, x0, x1, x2, x3, x4⟩ := ((HA.out.up U1.out).up HUy.out).at k hlt3
                    simp at e
                    obtain ⟨rfl, rfl⟩ := e
                    obtain ⟨hi, hv, hc, hlo, hhi⟩ := metE_iff.1 (HMS.out x (List.mem_of_getElem? hx))
                    have HTK : Hid ((L2 ++ metsO (adds.take k)) ++ metO x = L2 ++ metsO (adds.take (k + 1))) := by
                      unfold Hid
                      rw [List.take_add_one, hx, metsO_app]
                      simp [metsO]
                    have HLN : Hid ((L2 ++ metsO (adds.take k)).length ≤ 100000) := by
                      have h1 := metsO_len (adds.take k) (fun m hm => HMS.out m (List.mem_of_mem_take hm))
                      have h2 := HL2.out
                      have h3 := HL.out
                      rw [List.length_take] at h1
                      unfold Hid
                      rw [List.length_append]
                      omega
                    generalize L2 ++ metsO (adds.take k) = LL at *
                    clear hx
                    obtain ⟨w5, hw5⟩ : ∃ w5, w5 = wr.alloc (.cells #[.int .i64 x.id, .int .i64 x.lvl, .int .i64 x.cnt, .string x.low, .string x.high] 139) := ⟨_, rfl⟩
                    have HW5 : Hid (wr.alloc (.cells #[.int .i64 x.id, .int .i64 x.lvl, .int .i64 x.cnt, .string x.low, .string x.high] 139) = w5) := hid hw5.symm
                    have V5 : Hid (Below wr.heap.size wr w5) := by rw [hw5]; exact up_alloc _ _
                    have B5 : Hid (w5.heap[wr.heap.size]? = some (.cells #[.int .i64 x.id, .int .i64 x.lvl, .int .i64 x.cnt, .string x.low, .string x.high] 139)) := by rw [hw5]; exact blk_new _ _
                    have U5 : Hid (Below w1.heap.size w1 w5) := up_trans HUy.out V5.out
                    have O5 : Hid (OwnB w5 w1.heap.size (.slice ar nr cr) LL) := own_up HOr.out V5.out
                    clear hw5
                    go_upto_region 28 with fail
                    rw [HW5.out]
                    clear HW5 x0 x1 x2 x3 x4 c1 HOr HUy V5
                    generalize wr.heap.size = NX at *
                    have fD := blk_cell B5.out 0 _ rfl
                    have gwD : IntKind.u64.wrap x.id = x.id := wrap_u64_id _ (by omega) (by omega)
                    go_wp2_with fail
                    refine (refPut_any x.id w5 (by omega) (by omega)).mono ?_
                    rintro e pD ⟨vpD, rfl, opD, bpD⟩
                    obtain ⟨apD, npD, cpD, rfl⟩ := ownB_shape opD
                    have PPD : Hid (Octs pD (.slice apD npD cpD) (octets x.id)) := Octs.own opD ((octets_form _ (by omega) (by omega)).octet)
                    have OPD : Hid (OwnB pD w1.heap.size (.slice ar nr cr) (LL)) := own_up O5.out bpD
                    have UPD : Hid (Below w1.heap.size w1 pD) := up_trans U5.out bpD
                    have HBD : Hid ((LL).length + (octets x.id).length ≤ 140737488355328) := by have := HLN.out; have := octets_lenE x.id; have := octets_lenE x.lvl; have := octets_lenE x.cnt; have := octets_lenE (x.low.size : Int); have := octets_lenE (x.high.size : Int); have := nums_length x.low; have := nums_length x.high; unfold Hid; (try simp only [List.length_append]); omega
                    have BPD := hid (blk_up B5.out bpD)
                    clear opD bpD O5 U5
                    go_wp2_with (at_builtin; refine wpList_append_octs _ rfl _ _ rfl w1.heap.size (.slice ar nr cr) (LL) rfl OPD.out (.slice apD npD cpD) (octets x.id) rfl PPD.out HBD.out UPD.out.size ?_)
                    intro vD wD oD gD
                    obtain ⟨aD, nD, cD, rfl⟩ := ownB_shape oD
                    have OD : Hid (OwnB wD w1.heap.size (.slice aD nD cD) ((LL) ++ octets x.id)) := by first | exact oD | (unfold Hid; simpa only [List.append_assoc] using oD)
                    have UD : Hid (Below w1.heap.size w1 wD) := UPD.out.grown gD UPD.out.size (fun j hj => (OPD.out.lt j hj).1)
                    have BD : Hid (wD.heap[NX]? = some (.cells #[.int .i64 x.id, .int .i64 x.lvl, .int .i64 x.cnt, .string x.low, .string x.high] 139)) := blk_grown BPD.out gD (fun q => (own_blk_ne OPD.out BPD.out (by decide)).elim (fun h => by rw [h] at q; cases q) (fun h => h q.symm))
                    clear BPD
                    clear oD gD PPD OPD UPD HBD
                    clear fD gwD
                    clear B5
                    have fE := blk_cell BD.out 1 _ rfl
                    have gwE : IntKind.u64.wrap x.lvl = x.lvl := wrap_u64_id _ (by omega) (by omega)
                    go_wp2_with fail
                    refine (refPut_any x.lvl wD (by omega) (by omega)).mono ?_
                    rintro e pE ⟨vpE, rfl, opE, bpE⟩
                    obtain ⟨apE, npE, cpE, rfl⟩ := ownB_shape opE
                    have PPE : Hid (Octs pE (.slice apE npE cpE) (octets x.lvl)) := Octs.own opE ((octets_form _ (by omega) (by omega)).octet)
                    have OPE : Hid (OwnB pE w1.heap.size (.slice aD nD cD) ((LL) ++ octets x.id)) := own_up OD.out bpE
                    have UPE : Hid (Below w1.heap.size w1 pE) := up_trans UD.out bpE
                    have HBE : Hid (((LL) ++ octets x.id).length + (octets x.lvl).length ≤ 140737488355328) := by have := HLN.out; have := octets_lenE x.id; have := octets_lenE x.lvl; have := octets_lenE x.cnt; have := octets_lenE (x.low.size : Int); have := octets_lenE (x.high.size : Int); have := nums_length x.low; have := nums_length x.high; unfold Hid; (try simp only [List.length_append]); omega
                    have BPE := hid (blk_up BD.out bpE)
                    clear opE bpE OD UD
                    go_wp2_with (at_builtin; refine wpList_append_octs _ rfl _ _ rfl w1.heap.size (.slice aD nD cD) ((LL) ++ octets x.id) rfl OPE.out (.slice apE npE cpE) (octets x.lvl) rfl PPE.out HBE.out UPE.out.size ?_)
                    intro vE wE oE gE
                    obtain ⟨aE, nE, cE, rfl⟩ := ownB_shape oE
                    have OE : Hid (OwnB wE w1.heap.size (.slice aE nE cE) (((LL) ++ octets x.id) ++ octets x.lvl)) := by first | exact oE | (unfold Hid; simpa only [List.append_assoc] using oE)
                    have UE : Hid (Below w1.heap.size w1 wE) := UPE.out.grown gE UPE.out.size (fun j hj => (OPE.out.lt j hj).1)
                    have BE : Hid (wE.heap[NX]? = some (.cells #[.int .i64 x.id, .int .i64 x.lvl, .int .i64 x.cnt, .string x.low, .string x.high] 139)) := blk_grown BPE.out gE (fun q => (own_blk_ne OPE.out BPE.out (by decide)).elim (fun h => by rw [h] at q; cases q) (fun h => h q.symm))
                    clear BPE
                    clear oE gE PPE OPE UPE HBE
                    clear fE gwE
                    clear BD
                    have fF := blk_cell BE.out 2 _ rfl
                    have gwF : IntKind.u64.wrap x.cnt = x.cnt := wrap_u64_id _ (by omega) (by omega)
                    go_wp2_with fail
                    refine (refPut_any x.cnt wE (by omega) (by omega)).mono ?_
                    rintro e pF ⟨vpF, rfl, opF, bpF⟩
                    obtain ⟨apF, npF, cpF, rfl⟩ := ownB_shape opF
                    have PPF : Hid (Octs pF (.slice apF npF cpF) (octets x.cnt)) := Octs.own opF ((octets_form _ (by omega) (by omega)).octet)
                    have OPF : Hid (OwnB pF w1.heap.size (.slice aE nE cE) (((LL) ++ octets x.id) ++ octets x.lvl)) := own_up OE.out bpF
                    have UPF : Hid (Below w1.heap.size w1 pF) := up_trans UE.out bpF
                    have HBF : Hid ((((LL) ++ octets x.id) ++ octets x.lvl).length + (octets x.cnt).length ≤ 140737488355328) := by have := HLN.out; have := octets_lenE x.id; have := octets_lenE x.lvl; have := octets_lenE x.cnt; have := octets_lenE (x.low.size : Int); have := octets_lenE (x.high.size : Int); have := nums_length x.low; have := nums_length x.high; unfold Hid; (try simp only [List.length_append]); omega
                    have BPF := hid (blk_up BE.out bpF)
                    clear opF bpF OE UE
                    go_wp2_with (at_builtin; refine wpList_append_octs _ rfl _ _ rfl w1.heap.size (.slice aE nE cE) (((LL) ++ octets x.id) ++ octets x.lvl) rfl OPF.out (.slice apF npF cpF) (octets x.cnt) rfl PPF.out HBF.out UPF.out.size ?_)
                    intro vF wF oF gF
                    obtain ⟨aF, nF, cF, rfl⟩ := ownB_shape oF
                    have OF : Hid (OwnB wF w1.heap.size (.slice aF nF cF) ((((LL) ++ octets x.id) ++ octets x.lvl) ++ octets x.cnt)) := by first | exact oF | (unfold Hid; simpa only [List.append_assoc] using oF)
                    have UF : Hid (Below w1.heap.size w1 wF) := UPF.out.grown gF UPF.out.size (fun j hj => (OPF.out.lt j hj).1)
                    have BF : Hid (wF.heap[NX]? = some (.cells #[.int .i64 x.id, .int .i64 x.lvl, .int .i64 x.cnt, .string x.low, .string x.high] 139)) := blk_grown BPF.out gF (fun q => (own_blk_ne OPF.out BPF.out (by decide)).elim (fun h => by rw [h] at q; cases q) (fun h => h q.symm))
                    clear BPF
                    clear oF gF PPF OPF UPF HBF
                    clear fF gwF
                    clear BE
                    have fG := blk_cell BF.out 3 _ rfl
                    have gwG : IntKind.u64.wrap (x.low.size : Int) = (x.low.size : Int) := wrap_u64_id _ (by omega) (by omega)
                    go_wp2_with fail
                    refine (refPut_any (x.low.size : Int) wF (by omega) (by omega)).mono ?_
                    rintro e pG ⟨vpG, rfl, opG, bpG⟩
                    obtain ⟨apG, npG, cpG, rfl⟩ := ownB_shape opG
                    have PPG : Hid (Octs pG (.slice apG npG cpG) (octets (x.low.size : Int))) := Octs.own opG ((octets_form _ (by omega) (by omega)).octet)
                    have OPG : Hid (OwnB pG w1.heap.size (.slice aF nF cF) ((((LL) ++ octets x.id) ++ octets x.lvl) ++ octets x.cnt)) := own_up OF.out bpG
                    have UPG : Hid (Below w1.heap.size w1 pG) := up_trans UF.out bpG
                    have HBG : Hid (((((LL) ++ octets x.id) ++ octets x.lvl) ++ octets x.cnt).length + (octets (x.low.size : Int)).length ≤ 140737488355328) := by have := HLN.out; have := octets_lenE x.id; have := octets_lenE x.lvl; have := octets_lenE x.cnt; have := octets_lenE (x.low.size : Int); have := octets_lenE (x.high.size : Int); have := nums_length x.low; have := nums_length x.high; unfold Hid; (try simp only [List.length_append]); omega
                    have BPG := hid (blk_up BF.out bpG)
                    clear opG bpG OF UF
                    go_wp2_with (at_builtin; refine wpList_append_octs _ rfl _ _ rfl w1.heap.size (.slice aF nF cF) ((((LL) ++ octets x.id) ++ octets x.lvl) ++ octets x.cnt) rfl OPG.out (.slice apG npG cpG) (octets (x.low.size : Int)) rfl PPG.out HBG.out UPG.out.size ?_)
                    intro vG wG oG gG
                    obtain ⟨aG, nG, cG, rfl⟩ := ownB_shape oG
                    have OG : Hid (OwnB wG w1.heap.size (.slice aG nG cG) (((((LL) ++ octets x.id) ++ octets x.lvl) ++ octets x.cnt) ++ octets (x.low.size : Int))) := by first | exact oG | (unfold Hid; simpa only [List.append_assoc] using oG)
                    have UG : Hid (Below w1.heap.size w1 wG) := UPG.out.grown gG UPG.out.size (fun j hj => (OPG.out.lt j hj).1)
                    have BG : Hid (wG.heap[NX]? = some (.cells #[.int .i64 x.id, .int .i64 x.lvl, .int .i64 x.cnt, .string x.low, .string x.high] 139)) := blk_grown BPG.out gG (fun q => (own_blk_ne OPG.out BPG.out (by decide)).elim (fun h => by rw [h] at q; cases q) (fun h => h q.symm))
                    clear BPG
                    clear oG gG PPG OPG UPG HBG
                    clear fG gwG
                    clear BF
                    have fH := blk_cell BG.out 3 _ rfl
                    have HBH : Hid ((((((LL) ++ octets x.id) ++ octets x.lvl) ++ octets x.cnt) ++ octets (x.low.size : Int)).length + x.low.size ≤ 140737488355328) := by have := HLN.out; have := octets_lenE x.id; have := octets_lenE x.lvl; have := octets_lenE x.cnt; have := octets_lenE (x.low.size : Int); have := octets_lenE (x.high.size : Int); have := nums_length x.low; have := nums_length x.high; unfold Hid; (try simp only [List.length_append]); omega
                    go_wp2_with (at_builtin; refine wpList_append_str _ rfl _ _ rfl w1.heap.size (.slice aG nG cG) (((((LL) ++ octets x.id) ++ octets x.lvl) ++ octets x.cnt) ++ octets (x.low.size : Int)) rfl OG.out x.low rfl HBH.out UG.out.size ?_)
                    intro vH wH oH gH
                    obtain ⟨aH, nH, cH, rfl⟩ := ownB_shape oH
                    have OH : Hid (OwnB wH w1.heap.size (.slice aH nH cH) ((((((LL) ++ octets x.id) ++ octets x.lvl) ++ octets x.cnt) ++ octets (x.low.size : Int)) ++ nums x.low)) := by first | exact oH | (unfold Hid; simpa only [List.append_assoc] using oH)
                    have UH : Hid (Below w1.heap.size w1 wH) := UG.out.grown gH UG.out.size (fun j hj => (OG.out.lt j hj).1)
                    have BH : Hid (wH.heap[NX]? = some (.cells #[.int .i64 x.id, .int .i64 x.lvl, .int .i64 x.cnt, .string x.low, .string x.high] 139)) := blk_grown BG.out gH (fun q => (own_blk_ne OG.out BG.out (by decide)).elim (fun h => by rw [h] at q; cases q) (fun h => h q.symm))
                    clear oH gH HBH OG UG BG fH
                    have fJ := blk_cell BH.out 4 _ rfl
                    have gwJ : IntKind.u64.wrap (x.high.size : Int) = (x.high.size : Int) := wrap_u64_id _ (by omega) (by omega)
                    go_wp2_with fail
                    refine (refPut_any (x.high.size : Int) wH (by omega) (by omega)).mono ?_
                    rintro e pJ ⟨vpJ, rfl, opJ, bpJ⟩
                    obtain ⟨apJ, npJ, cpJ, rfl⟩ := ownB_shape opJ
                    have PPJ : Hid (Octs pJ (.slice apJ npJ cpJ) (octets (x.high.size : Int))) := Octs.own opJ ((octets_form _ (by omega) (by omega)).octet)
                    have OPJ : Hid (OwnB pJ w1.heap.size (.slice aH nH cH) ((((((LL) ++ octets x.id) ++ octets x.lvl) ++ octets x.cnt) ++ octets (x.low.size : Int)) ++ nums x.low)) := own_up OH.out bpJ
                    have UPJ : Hid (Below w1.heap.size w1 pJ) := up_trans UH.out bpJ
                    have HBJ : Hid (((((((LL) ++ octets x.id) ++ octets x.lvl) ++ octets x.cnt) ++ octets (x.low.size : Int)) ++ nums x.low).length + (octets (x.high.size : Int)).length ≤ 140737488355328) := by have := HLN.out; have := octets_lenE x.id; have := octets_lenE x.lvl; have := octets_lenE x.cnt; have := octets_lenE (x.low.size : Int); have := octets_lenE (x.high.size : Int); have := nums_length x.low; have := nums_length x.high; unfold Hid; (try simp only [List.length_append]); omega
                    have BPJ := hid (blk_up BH.out bpJ)
                    clear opJ bpJ OH UH
                    go_wp2_with (at_builtin; refine wpList_append_octs _ rfl _ _ rfl w1.heap.size (.slice aH nH cH) ((((((LL) ++ octets x.id) ++ octets x.lvl) ++ octets x.cnt) ++ octets (x.low.size : Int)) ++ nums x.low) rfl OPJ.out (.slice apJ npJ cpJ) (octets (x.high.size : Int)) rfl PPJ.out HBJ.out UPJ.out.size ?_)
                    intro vJ wJ oJ gJ
                    obtain ⟨aJ, nJ, cJ, rfl⟩ := ownB_shape oJ
                    have OJ : Hid (OwnB wJ w1.heap.size (.slice aJ nJ cJ) (((((((LL) ++ octets x.id) ++ octets x.lvl) ++ octets x.cnt) ++ octets (x.low.size : Int)) ++ nums x.low) ++ octets (x.high.size : Int))) := by first | exact oJ | (unfold Hid; simpa only [List.append_assoc] using oJ)
                    have UJ : Hid (Below w1.heap.size w1 wJ) := UPJ.out.grown gJ UPJ.out.size (fun j hj => (OPJ.out.lt j hj).1)
                    have BJ : Hid (wJ.heap[NX]? = some (.cells #[.int .i64 x.id, .int .i64 x.lvl, .int .i64 x.cnt, .string x.low, .string x.high] 139)) := blk_grown BPJ.out gJ (fun q => (own_blk_ne OPJ.out BPJ.out (by decide)).elim (fun h => by rw [h] at q; cases q) (fun h => h q.symm))
                    clear BPJ
                    clear oJ gJ PPJ OPJ UPJ HBJ
                    clear fJ gwJ
                    clear BH
                    have fQ := blk_cell BJ.out 4 _ rfl
                    have HBQ : Hid ((((((((LL) ++ octets x.id) ++ octets x.lvl) ++ octets x.cnt) ++ octets (x.low.size : Int)) ++ nums x.low) ++ octets (x.high.size : Int)).length + x.high.size ≤ 140737488355328) := by have := HLN.out; have := octets_lenE x.id; have := octets_lenE x.lvl; have := octets_lenE x.cnt; have := octets_lenE (x.low.size : Int); have := octets_lenE (x.high.size : Int); have := nums_length x.low; have := nums_length x.high; unfold Hid; (try simp only [List.length_append]); omega
                    go_wp2_with (at_builtin; refine wpList_append_str _ rfl _ _ rfl w1.heap.size (.slice aJ nJ cJ) (((((((LL) ++ octets x.id) ++ octets x.lvl) ++ octets x.cnt) ++ octets (x.low.size : Int)) ++ nums x.low) ++ octets (x.high.size : Int)) rfl OJ.out x.high rfl HBQ.out UJ.out.size ?_)
                    intro vQ wQ oQ gQ
                    obtain ⟨aQ, nQ, cQ, rfl⟩ := ownB_shape oQ
                    have OQ : Hid (OwnB wQ w1.heap.size (.slice aQ nQ cQ) ((((((((LL) ++ octets x.id) ++ octets x.lvl) ++ octets x.cnt) ++ octets (x.low.size : Int)) ++ nums x.low) ++ octets (x.high.size : Int)) ++ nums x.high)) := by first | exact oQ | (unfold Hid; simpa only [List.append_assoc] using oQ)
                    have UQ : Hid (Below w1.heap.size w1 wQ) := UJ.out.grown gQ UJ.out.size (fun j hj => (OJ.out.lt j hj).1)
                    have BQ : Hid (wQ.heap[NX]? = some (.cells #[.int .i64 x.id, .int .i64 x.lvl, .int .i64 x.cnt, .string x.low, .string x.high] 139)) := blk_grown BJ.out gQ (fun q => (own_blk_ne OJ.out BJ.out (by decide)).elim (fun h => by rw [h] at q; cases q) (fun h => h q.symm))
                    clear oQ gQ HBQ OJ UJ BJ fQ
                    have HQe : Hid (((((((((LL) ++ octets x.id) ++ octets x.lvl) ++ octets x.cnt) ++ octets (x.low.size : Int)) ++ nums x.low) ++ octets (x.high.size : Int)) ++ nums x.high) = L2 ++ metsO (adds.take (k + 1))) := by
                      unfold Hid
                      rw [← HTK.out]
                      unfold metO txtE
                      simp
                    go_wp2_with fail
                    exact ⟨⟨k + 1, _, _, _, by omega, by go_num, rfl, by rw [← HQe.out]; exact OQ, UQ⟩, by simp [intOf]; omega⟩
                  · have hlt3' : ¬ (k : Int) < (adds.length : Int) := by omega
                    have HOe : Hid (OwnB wr w1.heap.size (.slice ar nr cr) (edO seq next drop adds)) := by
                      have := HOr.out
                      rw [List.take_of_length_le (by omega), HED.out] at this
                      exact this
                    clear HOr
                    go_wp2_with fail
                    try go_ret2
                    refine HP.out _ _ ?_
                    rw [HEg.out]
                    exact ⟨_, _, _, rfl, ownB_mono HOe.out U1.out.size, U1.out.trans (HUy.out.mono U1.out.size)⟩
end Go.Proofs.YtnchjlimkgbfpaaGreatDoor
