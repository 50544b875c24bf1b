/- The program's span. -/
import Derived.Test.YtjdibpmckeifhaaJAt
import Derived.Test.YtjdibpmckeifhaaJMin
namespace Go.Proofs.Ytjdibpmckeifhaa
open Go.RowKit
set_option linter.unusedVariables false
set_option linter.unusedSimpArgs false

set_option maxHeartbeats 4000000 in
set_option maxRecDepth 100000 in
theorem span_any (l : List Me) (m : Me) (r : List Me) (hm : l = m :: r) (v : Value) (w : World) (hv : MetsR w v l) (hl : l.length ≤ 4000000) :
    Calls Try.prog 28 #[v] w fun e w' => e = .returned (.tuple #[.string (lowM m.low l), .string (highM m.high l)]) ∧ Hid (Below w.heap.size w w') := by
  have HV : Hid (MetsR w v l) := hv
  obtain ⟨b, off, cap, x, e, hx, x0, x1, x2, x3, x4⟩ := hv.at 0 (by rw [hm]; simp)
  obtain rfl : x = m := by rw [hm] at hx; simpa using hx.symm
  subst e
  have hpos : (0 : Int) < (l.length : Int) := by rw [hm]; simp
  have HMIN := fun (w : World) ts t a b => run_minK (P := Try.prog) w ts t a b
  have HMAX := fun (w : World) ts t a b => run_maxK (P := Try.prog) w ts t a b
  have HS1 : Hid (∀ k y, l[k]? = some y → lowM x.low (l.take (k + 1)) = minK (lowM x.low (l.take k)) y.low) := fun k y h => by rw [List.take_add_one, h]; exact lowM_snoc _ _ _
  have HS2 : Hid (∀ k y, l[k]? = some y → highM x.high (l.take (k + 1)) = maxK (highM x.high (l.take k)) y.high) := fun k y h => by rw [List.take_add_one, h]; exact highM_snoc _ _ _
  clear hv hx hm
  simp only [Nat.zero_mul, Nat.add_zero] at x0 x1 x2 x3 x4
  go_enter Try.func28, Try.ntmps28
  go_wp2_with fail
  go_quiet (fail)
  clear x0 x1 x2 x3 x4
  have HD := hid (up_drewN w nq)
  generalize w.drewN nq = wd at *
  go_wp2_with fail
  go_loopw [4, 5, 18] (fun o p i wr => ∃ (k : Nat), k ≤ l.length ∧ i = .int .i64 k ∧ o = .string (lowM x.low (l.take k)) ∧ p = .string (highM x.high (l.take k)) ∧ Hid (Below w.heap.size w wr)) (fun _ _ i _ => l.length - (intOf i).toNat)
  case atStart => exact ⟨0, Nat.zero_le _, rfl, rfl, rfl, HD⟩
  case round =>
    clear HD hpos
    clear wd
    obtain ⟨k, hk, rfl, rfl, rfl, HB⟩ := hrel
    by_cases hlt : k < l.length
    · have hlt' : (k : Int) < (l.length : Int) := by omega
      obtain ⟨b', off', cap', y, e, hy, x0, x1, x2, x3, x4⟩ := (HV.out.up HB.out).at k hlt
      simp only [Value.slice.injEq, Option.some.injEq, Addr.mk.injEq] at e
      obtain ⟨⟨rfl, rfl, _⟩, _, rfl⟩ := e
      have E1 := hid (HS1.out k y hy)
      have E2 := hid (HS2.out k y hy)
      have HB2 : Hid (Below w.heap.size w (wr.alloc (meBox y))) := up_al HB.out _
      have BX : Hid (BoxM (wr.alloc (meBox y)) wr.heap.size y) := blk_new _ _
      clear hy
      obtain ⟨w2, hw2⟩ : ∃ w2, w2 = wr.alloc (meBox y) := ⟨_, rfl⟩
      have HW2 : Hid (wr.alloc (.cells #[.int .i64 y.id, .int .i64 y.lvl, .int .i64 y.cnt, .string y.low, .string y.high] 70) = w2) := hw2.symm
      rw [← hw2] at HB2 BX
      clear hw2
      generalize lowM x.low (l.take k) = LL at *
      generalize highM x.high (l.take k) = HH at *
      have M1 := fun (w : World) ts t => run_minK (P := Try.prog) w ts t LL y.low
      have M2 := fun (w : World) ts t => run_maxK (P := Try.prog) w ts t HH y.high
      rw [← E1.out] at M1
      rw [← E2.out] at M2
      clear HMIN HMAX
      obtain ⟨LN, hLN⟩ : ∃ LN, lowM x.low (l.take (k + 1)) = LN := ⟨_, rfl⟩
      obtain ⟨HN, hHN⟩ : ∃ HN, highM x.high (l.take (k + 1)) = HN := ⟨_, rfl⟩
      rw [hLN] at M1
      rw [hHN] at M2
      clear E1 E2
      have E1 := hid hLN
      have E2 := hid hHN
      clear hLN hHN
      go_upto_region 5 with fail
      rw [HW2.out]
      clear HW2
      generalize wr.heap.size = NX at *
      clear x0 x1 x2 x3 x4
      obtain ⟨m0, m1, m2, m3, m4⟩ := BX.out.cells
      go_quiet (fail)
      go_wp2_with fail
      exact ⟨⟨k + 1, by omega, by go_num, by rw [E1.out], by rw [E2.out], up_trans HB2.out (up_drewN _ _)⟩, by simp [intOf]; omega⟩
    · have hlt' : ¬ (k : Int) < (l.length : Int) := by omega
      obtain rfl : k = l.length := by omega
      rw [List.take_length]
      go_wp2_with fail
      go_ret2
      exact ⟨rfl, HB⟩
end Go.Proofs.Ytjdibpmckeifhaa
