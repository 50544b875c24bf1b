/- The program's touched. -/
import Derived.Test.YtjdibpmckeifhaaJDel
namespace Go.Proofs.Ytjdibpmckeifhaa
open Go.RowKit
set_option linter.unusedVariables false
set_option linter.unusedSimpArgs false

set_option maxHeartbeats 4000000 in
set_option maxRecDepth 100000 in
theorem touched_any (l : List Me) (f t : ByteArray) (v : Value) (base : Nat) (w : World) (hv : OwnR w base 70 5 v (l.map meRow)) (hl : l.length ≤ 4398046511104) (hb : base ≤ w.heap.size) :
    Calls Try.prog 29 #[v, .string f, .string t] w fun e w' => ∃ a n c, e = .returned (.slice a n c) ∧ Hid (n = (l.filter (hitM f t)).length) ∧ Hid (OwnR w' base 70 5 (.slice a n c) ((l.filter (hitM f t)).map meRow)) ∧ Hid (Below base w w') := by
  obtain ⟨va, vn, vc, rfl, HO⟩ := rows_shape hv
  obtain ⟨w0, hw0⟩ : ∃ w0, w0 = (w.alloc (.cells #[.string f] 9)).alloc (.cells #[.string t] 9) := ⟨_, rfl⟩
  have HW0 : Hid ((w.alloc (.cells #[.string f] 9)).alloc (.cells #[.string t] 9) = w0) := hw0.symm
  have U0 : Hid (Below w.heap.size w w0) := by rw [hw0]; exact up_al (up_alloc _ _) _
  have B0 : w0.heap[w.heap.size]? = some (.cells #[.string f] 9) := by rw [hw0]; exact blk_up (blk_new _ _) (up_alloc _ _)
  have B1 : w0.heap[w.heap.size + 1]? = some (.cells #[.string t] 9) := by
    rw [hw0]
    have := blk_new (w.alloc (.cells #[.string f] 9)) (.cells #[.string t] 9)
    rw [show (w.alloc (.cells #[.string f] 9)).heap.size = w.heap.size + 1 by simp] at this
    exact this
  have HD := hid (delete_any l (.slice va vn vc) f t w.heap.size (w.heap.size + 1) base w0 (HO.out.up U0.out) hl (blk_cell B0 0 _ rfl) (blk_cell B1 0 _ rfl) (fun g hg => by have := (HO.out.2.lt g hg).2; exact ⟨by omega, by omega⟩))
  have HGB : Hid (∀ w', w0.grownBy w' (Value.slice va vn vc).ownBlock → Below base w w') := fun w' hg => by
    have u0 : Below base w w0 := U0.out.mono hb
    refine u0.grown hg (Nat.le_trans hb U0.out.size) (fun k hk => (HO.out.2.lt k hk).1)
  clear hv hw0 B0 B1 hb hl
  go_enter Try.func29, Try.ntmps29
  go_upto_region 1 with fail
  rw [HW0.out]
  clear HW0
  go_wp2_with fail
  refine HD.out.mono ?_
  rintro e w1 ⟨a, n, c, rfl, HN, O1, hg⟩
  have HB := hid (HGB.out w1 hg.out)
  clear hg HGB HD
  go_wp2_with fail
  go_ret
  exact ⟨a, n, c, rfl, HN, O1, HB⟩
end Go.Proofs.Ytjdibpmckeifhaa
