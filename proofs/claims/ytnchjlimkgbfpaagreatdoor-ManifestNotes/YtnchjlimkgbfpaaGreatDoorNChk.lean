
import Derived.Test.YtnchjlimkgbfpaaGreatDoorJ31
import Derived.Test.YtnchjlimkgbfpaaGreatDoorJ28
import Derived.Test.YtnchjlimkgbfpaaGreatDoorJ27
namespace Go.Proofs.YtnchjlimkgbfpaaGreatDoor
open Go.RowKit
set_option linter.unusedVariables false
set_option maxRecDepth 20000
set_option linter.unusedSimpArgs false
theorem ints_made (w : World) (e : TypeId) (l : List Int) (hm : l.length ≤ maxLen) : IntsR (w.alloc (.cells (l.map (Value.int .i64)).toArray e)) (.slice (some ⟨w.heap.size, 0, none⟩) l.length l.length) l := by
  have h := Rws.made (sz := 1) w e (l.map irow) (by intro cs hcs; obtain ⟨x, _, rfl⟩ := List.mem_map.1 hcs; rfl) (by simpa using hm)
  have e1 : (l.map irow).flatten = l.map (Value.int .i64) := by
    clear h hm
    induction l with
    | nil => rfl
    | cons x r ih => simp only [List.map_cons, List.flatten_cons, ih]; rfl
  rw [e1, List.length_map] at h
  exact h
theorem enc_three {seq next : Int} {drop : List Int} {adds : List Me} (h : 256 < drop.length ∨ 256 < adds.length) : (encE seq next drop adds).2 = 3 := by
  unfold encE; rw [if_pos h]
theorem enc_one {seq next : Int} {drop : List Int} {adds : List Me} (h1 : ¬ 256 < drop.length) (h2 : ¬ 256 < adds.length) (hb : (numE seq && (numE next && (drop.all numE && adds.all metE))) = false) : (encE seq next drop adds).2 = 1 := by
  unfold encE; rw [if_neg (by omega), if_neg (by rw [hb]; decide)]
theorem enc_nil {seq next : Int} {drop : List Int} {adds : List Me} (h1 : ¬ 256 < drop.length) (h2 : ¬ 256 < adds.length) (hb : (numE seq && (numE next && (drop.all numE && adds.all metE))) = true) : (encE seq next drop adds).2 = 0 := by
  unfold encE; rw [if_neg (by omega), if_pos hb]
theorem mall_goes {l : List Me} {k : Nat} {x : Me} (h : (l.take k).all metE = true) (hx : l[k]? = some x) (hn : metE x = true) : (l.take (k + 1)).all metE = true := by
  rw [List.take_add_one, hx, List.all_append, h]
  simp [hn]
theorem mall_not {l : List Me} {k : Nat} {x : Me} (hx : l[k]? = some x) (hn : metE x = false) : l.all metE = false := by
  rw [List.all_eq_false]
  exact ⟨x, List.mem_of_getElem? hx, by simp [hn]⟩
set_option maxHeartbeats 4000000 in
set_option maxRecDepth 100000 in
theorem checkEdit_any (seq next : Int) (drop : List Int) (adds : List Me) (vd va : Value) (w : World) (hd : IntsR w vd drop) (ha : MetsR w va adds) :
    Calls Tryz.prog 117 #[.agg #[vd, va, .int .i64 seq, .int .i64 next]] w fun e w' => e = .returned (.int .i64 (encE seq next drop adds).2) ∧ Hid (Below w.heap.size w w') := by
  have HDR : Hid (IntsR w vd drop) := hd
  have HAR : Hid (MetsR w va adds) := ha
  obtain ⟨ad, cd, rfl, _, md⟩ := hd.len
  obtain ⟨aa, ca, rfl, _, ma⟩ := ha.len
  clear hd ha md ma
  have UB : Hid (Below w.heap.size w (w.alloc (.cells #[.slice ad drop.length cd, .slice aa adds.length ca, .int .i64 seq, .int .i64 next] 42))) := up_alloc _ _
  by_cases h1 : 256 < drop.length
  · rw [enc_three (.inl h1)]
    have h1' : (256 : Int) < (drop.length : Int) := by omega
    clear h1 HDR HAR
    go_enter Tryz.func117, Tryz.ntmps117
    go_wp2_with fail
    go_ret
    exact ⟨rfl, UB⟩
  by_cases h2 : 256 < adds.length
  · rw [enc_three (.inr h2)]
    have h1' : ¬ (256 : Int) < (drop.length : Int) := by omega
    have h2' : (256 : Int) < (adds.length : Int) := by omega
    clear h1 h2 HDR HAR
    go_enter Tryz.func117, Tryz.ntmps117
    go_wp2_with fail
    go_ret
    exact ⟨rfl, UB⟩
  have h1' : ¬ (256 : Int) < (drop.length : Int) := by omega
  have h2' : ¬ (256 : Int) < (adds.length : Int) := by omega
  have HE1 : Hid ((numE seq && (numE next && (drop.all numE && adds.all metE))) = false → (encE seq next drop adds).2 = 1) := enc_one h1 h2
  have HE0 : Hid ((numE seq && (numE next && (drop.all numE && adds.all metE))) = true → (encE seq next drop adds).2 = 0) := enc_nil h1 h2
  have HL : Hid (adds.length ≤ 256) := by unfold Hid; omega
  clear h1 h2
  have hsz : (w.alloc (.cells #[.slice ad drop.length cd, .slice aa adds.length ca, .int .i64 seq, .int .i64 next] 42)).heap.size = w.heap.size + 1 := by simp
  have HSN : Hid (IntsR ((w.alloc (.cells #[.slice ad drop.length cd, .slice aa adds.length ca, .int .i64 seq, .int .i64 next] 42)).alloc (.cells #[.int .i64 seq, .int .i64 next] 3)) (.slice (some ⟨w.heap.size + 1, 0, none⟩) 2 2) [seq, next]) := by
    have := ints_made (w.alloc (.cells #[.slice ad drop.length cd, .slice aa adds.length ca, .int .i64 seq, .int .i64 next] 42)) 3 [seq, next] (by simp [maxLen])
    rw [hsz] at this
    exact this
  have U2 : Hid (Below w.heap.size w ((w.alloc (.cells #[.slice ad drop.length cd, .slice aa adds.length ca, .int .i64 seq, .int .i64 next] 42)).alloc (.cells #[.int .i64 seq, .int .i64 next] 3))) := up_al (up_alloc _ _) _
  have BB : Hid (((w.alloc (.cells #[.slice ad drop.length cd, .slice aa adds.length ca, .int .i64 seq, .int .i64 next] 42)).alloc (.cells #[.int .i64 seq, .int .i64 next] 3)).heap[w.heap.size]? = some (.cells #[.slice ad drop.length cd, .slice aa adds.length ca, .int .i64 seq, .int .i64 next] 42)) := blk_up (blk_new _ _) (up_alloc _ _)
  obtain ⟨w2, hw2⟩ : ∃ w2, w2 = (w.alloc (.cells #[.slice ad drop.length cd, .slice aa adds.length ca, .int .i64 seq, .int .i64 next] 42)).alloc (.cells #[.int .i64 seq, .int .i64 next] 3) := ⟨_, rfl⟩
  have HW2 : (w.alloc (.cells #[.slice ad drop.length cd, .slice aa adds.length ca, .int .i64 seq, .int .i64 next] 42)).alloc (.cells #[.int .i64 seq, .int .i64 next] 3) = w2 := hw2.symm
  rw [← hw2] at HSN U2 BB
  clear hw2 hsz UB
  have HWA := hid (writable_any _ _ w2 HSN.out)
  have HWB := hid (writable_any _ _ w2 (HDR.out.up U2.out))
  have HEQ : [seq, next].all numE = (numE seq && numE next) := by simp
  rw [HEQ] at HWA
  have c0 := blk_cell BB.out 0 _ rfl
  have c1 := blk_cell BB.out 1 _ rfl
  generalize hb0 : (numE seq && numE next) = b0 at *
  generalize hb1 : drop.all numE = b1 at *
  obtain ⟨y, hy⟩ : ∃ y, (encE seq next drop adds).2 = y := ⟨_, rfl⟩
  rw [hy] at HE1 HE0 ⊢
  clear hy HEQ HDR HSN
  cases b0
  · have hy : y = 1 := HE1.out (by rw [← Bool.and_assoc, hb0]; rfl)
    subst hy
    clear hb0 hb1 HE1 HE0 HWB
    go_enter Tryz.func117, Tryz.ntmps117
    go_upto_region 3 with fail
    go_wp2_with fail
    try rw [HW2]
    refine HWA.out.mono ?_
    rintro e w' ⟨rfl, rfl⟩
    go_wp2_with fail
    go_ret
    exact ⟨rfl, U2⟩
  cases b1
  · have hy : y = 1 := HE1.out (by rw [← Bool.and_assoc, hb0]; rfl)
    subst hy
    clear hb0 hb1 HE1 HE0
    go_enter Tryz.func117, Tryz.ntmps117
    go_upto_region 3 with fail
    go_wp2_with fail
    try rw [HW2]
    refine HWA.out.mono ?_
    rintro e w' ⟨rfl, rfl⟩
    go_wp2_with fail
    refine HWB.out.mono ?_
    rintro e w' ⟨rfl, rfl⟩
    go_wp2_with fail
    go_ret
    exact ⟨rfl, U2⟩
  have HY1 : Hid (adds.all metE = false → y = 1) := by
    intro h
    exact HE1.out (by rw [h, ← Bool.and_assoc, hb0]; rfl)
  have HY0 : Hid (adds.all metE = true → y = 0) := by
    intro h
    exact HE0.out (by rw [h, ← Bool.and_assoc, hb0]; rfl)
  clear hb0 hb1 HE1 HE0
  go_enter Tryz.func117, Tryz.ntmps117
  go_upto_region 3 with fail
  go_wp2_with fail
  try rw [HW2]
  refine HWA.out.mono ?_
  rintro e w' ⟨rfl, rfl⟩
  go_wp2_with fail
  refine HWB.out.mono ?_
  rintro e w' ⟨rfl, rfl⟩
  clear HW2 HWA HWB
  go_wp2_with fail
  go_loopw [34] (fun i wr => ∃ k : Nat, k ≤ adds.length ∧ i = .int .i64 k ∧ Hid ((adds.take k).all metE = true) ∧ Hid (Below w.heap.size w wr)) (fun i _ => adds.length - (intOf i).toNat)
  case atStart => exact ⟨0, Nat.zero_le _, rfl, by simp [Hid], U2⟩
  case round =>
    clear c0 c1 BB U2
    obtain ⟨k, hk, rfl, HA, HB⟩ := hrel
    by_cases hlt : k < adds.length
    · have hlt' : (k : Int) < (adds.length : Int) := by omega
      obtain ⟨b, off, cap, x, e, hx, x0, x1, x2, x3, x4⟩ := (HAR.out.up HB.out).at k hlt
      simp at e
      obtain ⟨rfl, rfl⟩ := e
      have HX : Hid (adds[k]? = some x) := hx
      clear hx
      have UB : Hid (Below wr.heap.size wr (wr.alloc (meBox x))) := up_alloc _ _
      have BXX : Hid (BoxM (wr.alloc (meBox x)) wr.heap.size x) := blk_new _ _
      have HB2 : Hid (Below w.heap.size w (wr.alloc (meBox x))) := up_al HB.out _
      obtain ⟨w2', hw2⟩ : ∃ w2, w2 = wr.alloc (meBox x) := ⟨_, rfl⟩
      have HW2 : Hid (wr.alloc (.cells #[.int .i64 x.id, .int .i64 x.lvl, .int .i64 x.cnt, .string x.low, .string x.high] 148) = w2') := hw2.symm
      rw [← hw2] at UB HB2 BXX
      clear hw2
      have HNO : Hid (∀ w, Calls Tryz.prog 119 #[.agg #[.int .i64 x.id, .int .i64 x.lvl, .int .i64 x.cnt, .string x.low, .string x.high]] w fun e w' => e = .returned (.agg #[.int .i64 x.id, .int .i64 x.lvl, .int .i64 x.cnt]) ∧ Hid (Below w.heap.size w w')) := fun w => numbersOf_any x w
      have HTO : Hid (∀ w, Calls Tryz.prog 120 #[.agg #[.int .i64 x.id, .int .i64 x.lvl, .int .i64 x.cnt, .string x.low, .string x.high]] w fun e w' => e = .returned (.agg #[.string x.low, .string x.high]) ∧ Hid (Below w.heap.size w w')) := fun w => textsOf_any x w
      have iy0 := fun w => (idx89 x.low x.high w).1
      have iy1 := fun w => (idx89 x.low x.high w).2
      go_upto_region 8 with fail
      rw [HW2.out]
      clear HW2 UB x0 x1 x2 x3 x4
      generalize wr.heap.size = NX at *
      obtain ⟨m0, m1, m2, m3, m4⟩ := BXX.out.cells
      go_wp2_with fail
      refine (HNO.out _).mono ?_
      rintro e w3 ⟨rfl, u3⟩
      have HI3 : Hid (IntsR (w3.alloc (.cells #[.int .i64 x.id, .int .i64 x.lvl, .int .i64 x.cnt] 205)) (.slice (some ⟨w3.heap.size, 0, none⟩) 3 3) [x.id, x.lvl, x.cnt]) := ints_made w3 205 [x.id, x.lvl, x.cnt] (by simp [maxLen])
      have HB3 : Hid (Below w.heap.size w (w3.alloc (.cells #[.int .i64 x.id, .int .i64 x.lvl, .int .i64 x.cnt] 205))) := up_al (up_trans HB2.out u3.out) _
      have BX3 : Hid (BoxM (w3.alloc (.cells #[.int .i64 x.id, .int .i64 x.lvl, .int .i64 x.cnt] 205)) NX x) := (BXX.out.up u3.out).up (up_alloc _ _)
      obtain ⟨w4, hw4⟩ : ∃ w4, w4 = w3.alloc (.cells #[.int .i64 x.id, .int .i64 x.lvl, .int .i64 x.cnt] 205) := ⟨_, rfl⟩
      have HW4 : Hid (w3.alloc (.cells #[.int .i64 x.id, .int .i64 x.lvl, .int .i64 x.cnt] 205) = w4) := hw4.symm
      rw [← hw4] at HI3 HB3 BX3
      clear hw4 u3 BXX HB2 m0 m1 m2 m3 m4
      go_upto_region 9 with fail
      rw [HW4.out]
      clear HW4
      generalize w3.heap.size = NY at *
      have HWR := hid (writable_any _ _ w4 HI3.out)
      clear HI3
      obtain ⟨m0, m1, m2, m3, m4⟩ := BX3.out.cells
      have HME : metE x = ([x.id, x.lvl, x.cnt].all numE && decide (x.low.size ≤ 96 ∧ x.high.size ≤ 96)) := by unfold metE; simp [Bool.and_assoc]
      generalize [x.id, x.lvl, x.cnt].all numE = b at *
      cases b
      · have hy : y = 1 := HY1.out (mall_not HX.out (by rw [HME]; rfl))
        subst hy
        clear HME
        go_wp2_with fail
        refine HWR.out.mono ?_
        rintro e w' ⟨rfl, rfl⟩
        go_wp2_with fail
        go_ret
        exact ⟨rfl, HB3⟩
      by_cases hlo : 96 < x.low.size
      · have hlo' : (96 : Int) < (x.low.size : Int) := by omega
        have hy : y = 1 := HY1.out (mall_not HX.out (by rw [HME]; simp; omega))
        subst hy
        clear HME
        go_wp2_with fail
        refine HWR.out.mono ?_
        rintro e w' ⟨rfl, rfl⟩
        go_wp2_with fail
        refine (HTO.out _).mono ?_
        rintro e w5 ⟨rfl, u5⟩
        have HB5 := hid (up_trans HB3.out u5.out)
        go_wp2_with fail
        refine wp_loop_rounds 3 ?_
        rw [rounds_succ]
        go_wp2_with fail
        go_ret
        exact ⟨rfl, HB5⟩
      have hlo' : ¬ (96 : Int) < (x.low.size : Int) := by omega
      by_cases hhi : 96 < x.high.size
      · have hhi' : (96 : Int) < (x.high.size : Int) := by omega
        have hy : y = 1 := HY1.out (mall_not HX.out (by rw [HME]; simp; omega))
        subst hy
        clear HME
        go_wp2_with fail
        refine HWR.out.mono ?_
        rintro e w' ⟨rfl, rfl⟩
        go_wp2_with fail
        refine (HTO.out _).mono ?_
        rintro e w5 ⟨rfl, u5⟩
        have HB5 := hid (up_trans HB3.out u5.out)
        go_wp2_with fail
        refine wp_loop_rounds 3 ?_
        rw [rounds_succ]
        go_wp2_with fail
        rw [rounds_succ]
        go_wp2_with fail
        go_ret
        exact ⟨rfl, HB5⟩
      have hhi' : ¬ (96 : Int) < (x.high.size : Int) := by omega
      have HA' := hid (mall_goes HA.out HX.out (by rw [HME]; simp; omega))
      clear HME
      go_wp2_with fail
      refine HWR.out.mono ?_
      rintro e w' ⟨rfl, rfl⟩
      go_wp2_with fail
      refine (HTO.out _).mono ?_
      rintro e w5 ⟨rfl, u5⟩
      have HB5 := hid (up_trans HB3.out u5.out)
      go_wp2_with fail
      refine wp_loop_rounds 3 ?_
      rw [rounds_succ]
      go_wp2_with fail
      rw [rounds_succ]
      go_wp2_with fail
      rw [rounds_succ]
      go_wp2_with fail
      exact ⟨⟨k + 1, by omega, by go_num, HA', HB5⟩, by simp [intOf]; omega⟩
    · have hlt' : ¬ (k : Int) < (adds.length : Int) := by omega
      obtain rfl : k = adds.length := by omega
      rw [List.take_length] at HA
      have hy := HY0.out HA.out
      subst hy
      go_wp2_with fail
      go_ret
      exact ⟨rfl, HB⟩
end Go.Proofs.YtnchjlimkgbfpaaGreatDoor
