/- The law's Alike and sameEdit of layer 11, of equal ones. -/
import Derived.Test.YtjdibpmckeifhaaELaw
import Derived.Test.YtjdibpmckeifhaaLInts
import Derived.Deep.Cut
namespace Go.Proofs.Ytjdibpmckeifhaa
open Go.RowKit
set_option linter.unusedVariables false
set_option linter.unusedSimpArgs false

set_option maxHeartbeats 2000000 in
set_option maxRecDepth 100000 in
theorem alike_self (l : List Me) (seq next : Int) (va ua : Option Addr) (vn vc un uc : Nat) (w : World) (hv : MetsR w (.slice va vn vc) l) (hu : MetsR w (.slice ua un uc) l) :
    Calls Try.prog 18 #[.agg #[.slice va vn vc, .int .i64 seq, .int .i64 next], .agg #[.slice ua un uc, .int .i64 seq, .int .i64 next]] w fun e w' => e = .returned (.int .i64 0) ∧ Hid (Below w.heap.size w w') := by
  obtain ⟨w0, hw0⟩ : ∃ w0, w0 = (w.alloc (.cells #[.slice va vn vc, .int .i64 seq, .int .i64 next] 27)).alloc (.cells #[.slice ua un uc, .int .i64 seq, .int .i64 next] 24) := ⟨_, rfl⟩
  have HW0 : Hid ((w.alloc (.cells #[.slice va vn vc, .int .i64 seq, .int .i64 next] 27)).alloc (.cells #[.slice ua un uc, .int .i64 seq, .int .i64 next] 24) = w0) := hw0.symm
  have B0 : Hid (w0.heap[w.heap.size]? = some (.cells #[.slice va vn vc, .int .i64 seq, .int .i64 next] 27)) := by rw [hw0]; exact blk_up (blk_new _ _) (up_alloc _ _)
  have B1 : Hid (w0.heap[w.heap.size + 1]? = some (.cells #[.slice ua un uc, .int .i64 seq, .int .i64 next] 24)) := by
    rw [hw0]
    have := blk_new (w.alloc (.cells #[.slice va vn vc, .int .i64 seq, .int .i64 next] 27)) (.cells #[.slice ua un uc, .int .i64 seq, .int .i64 next] 24)
    rw [show (w.alloc (.cells #[.slice va vn vc, .int .i64 seq, .int .i64 next] 27)).heap.size = w.heap.size + 1 by simp] at this
    exact this
  have U0 : Hid (Below w.heap.size w w0) := by rw [hw0]; exact up_al (up_alloc _ _) _
  have HC : Hid (Calls Try.prog 35 #[.slice va vn vc, .slice ua un uc] w0 fun e w' => e = .returned (.bool true) ∧ ∃ d, w' = w0.drewN d) := sameMetas_self l _ _ w0 (hv.up U0.out) (hu.up U0.out)
  have q0 := blk_cell B0.out 0 _ rfl
  have q1 := blk_cell B0.out 1 _ rfl
  have q2 := blk_cell B0.out 2 _ rfl
  have p0 := blk_cell B1.out 0 _ rfl
  have p1 := blk_cell B1.out 1 _ rfl
  have p2 := blk_cell B1.out 2 _ rfl
  clear hv hu hw0
  go_enter Try.func18, Try.ntmps18
  go_upto_region 1 with fail
  rw [HW0.out]
  go_wp2_with fail
  refine HC.out.mono ?_
  rintro e w1 ⟨rfl, d, rfl⟩
  go_wp2_with fail
  go_ret
  exact ⟨rfl, up_trans U0.out (up_drewN _ _)⟩
end Go.Proofs.Ytjdibpmckeifhaa
