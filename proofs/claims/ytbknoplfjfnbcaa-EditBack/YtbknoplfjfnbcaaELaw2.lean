/- The law's Alike and sameEdit of layer 11, of equal ones. -/
import Derived.Test.YtbknoplfjfnbcaaELaw
import Derived.Test.YtbknoplfjfnbcaaLInts
import Derived.Deep.Cut
namespace Go.Proofs.Ytbknoplfjfnbcaa
open Go.RowKit
set_option linter.unusedVariables false
set_option linter.unusedSimpArgs false

set_option maxHeartbeats 2000000 in
set_option maxRecDepth 100000 in
theorem alike_self (l : List Me) (seq next : Int) (va ua : Option Addr) (vn vc un uc : Nat) (w : World) (hv : MetsR w (.slice va vn vc) l) (hu : MetsR w (.slice ua un uc) l) :
    Calls Try.prog 16 #[.agg #[.slice va vn vc, .int .i64 seq, .int .i64 next], .agg #[.slice ua un uc, .int .i64 seq, .int .i64 next]] w fun e w' => e = .returned (.int .i64 0) ∧ Hid (Below w.heap.size w w') := by
  obtain ⟨w0, hw0⟩ : ∃ w0, w0 = (w.alloc (.cells #[.slice va vn vc, .int .i64 seq, .int .i64 next] 30)).alloc (.cells #[.slice ua un uc, .int .i64 seq, .int .i64 next] 24) := ⟨_, rfl⟩
  have HW0 : Hid ((w.alloc (.cells #[.slice va vn vc, .int .i64 seq, .int .i64 next] 30)).alloc (.cells #[.slice ua un uc, .int .i64 seq, .int .i64 next] 24) = w0) := hw0.symm
  have B0 : Hid (w0.heap[w.heap.size]? = some (.cells #[.slice va vn vc, .int .i64 seq, .int .i64 next] 30)) := by rw [hw0]; exact blk_up (blk_new _ _) (up_alloc _ _)
  have B1 : Hid (w0.heap[w.heap.size + 1]? = some (.cells #[.slice ua un uc, .int .i64 seq, .int .i64 next] 24)) := by
    rw [hw0]
    have := blk_new (w.alloc (.cells #[.slice va vn vc, .int .i64 seq, .int .i64 next] 30)) (.cells #[.slice ua un uc, .int .i64 seq, .int .i64 next] 24)
    rw [show (w.alloc (.cells #[.slice va vn vc, .int .i64 seq, .int .i64 next] 30)).heap.size = w.heap.size + 1 by simp] at this
    exact this
  have U0 : Hid (Below w.heap.size w w0) := by rw [hw0]; exact up_al (up_alloc _ _) _
  have HC : Hid (Calls Try.prog 19 #[.slice va vn vc, .slice ua un uc] w0 fun e w' => e = .returned (.bool true) ∧ ∃ d, w' = w0.drewN d) := sameMetas_self l _ _ w0 (hv.up U0.out) (hu.up U0.out)
  have q0 := blk_cell B0.out 0 _ rfl
  have q1 := blk_cell B0.out 1 _ rfl
  have q2 := blk_cell B0.out 2 _ rfl
  have p0 := blk_cell B1.out 0 _ rfl
  have p1 := blk_cell B1.out 1 _ rfl
  have p2 := blk_cell B1.out 2 _ rfl
  clear hv hu hw0
  go_enter Try.func16, Try.ntmps16
  go_upto_region 1 with fail
  rw [HW0.out]
  go_wp2_with fail
  refine HC.out.mono ?_
  rintro e w1 ⟨rfl, d, rfl⟩
  go_wp2_with fail
  go_ret
  exact ⟨rfl, up_trans U0.out (up_drewN _ _)⟩
set_option maxHeartbeats 2000000 in
set_option maxRecDepth 100000 in
theorem sameEdit_self (is : List Int) (l : List Me) (seq next : Int) (da va ea ua : Option Addr) (dn dc vn vc en ec un uc : Nat) (w : World) (hd : IntsR w (.slice da dn dc) is) (he : IntsR w (.slice ea en ec) is) (hv : MetsR w (.slice va vn vc) l) (hu : MetsR w (.slice ua un uc) l) :
    Calls Try.prog 18 #[.agg #[.slice da dn dc, .slice va vn vc, .int .i64 seq, .int .i64 next], .agg #[.slice ea en ec, .slice ua un uc, .int .i64 seq, .int .i64 next]] w fun e w' => e = .returned (.bool true) ∧ Hid (Below w.heap.size w w') := by
  obtain ⟨w0, hw0⟩ : ∃ w0, w0 = (w.alloc (.cells #[.slice da dn dc, .slice va vn vc, .int .i64 seq, .int .i64 next] 33)).alloc (.cells #[.slice ea en ec, .slice ua un uc, .int .i64 seq, .int .i64 next] 27) := ⟨_, rfl⟩
  have HW0 : Hid ((w.alloc (.cells #[.slice da dn dc, .slice va vn vc, .int .i64 seq, .int .i64 next] 33)).alloc (.cells #[.slice ea en ec, .slice ua un uc, .int .i64 seq, .int .i64 next] 27) = w0) := hw0.symm
  have B0 : Hid (w0.heap[w.heap.size]? = some (.cells #[.slice da dn dc, .slice va vn vc, .int .i64 seq, .int .i64 next] 33)) := by rw [hw0]; exact blk_up (blk_new _ _) (up_alloc _ _)
  have B1 : Hid (w0.heap[w.heap.size + 1]? = some (.cells #[.slice ea en ec, .slice ua un uc, .int .i64 seq, .int .i64 next] 27)) := by
    rw [hw0]
    have := blk_new (w.alloc (.cells #[.slice da dn dc, .slice va vn vc, .int .i64 seq, .int .i64 next] 33)) (.cells #[.slice ea en ec, .slice ua un uc, .int .i64 seq, .int .i64 next] 27)
    rw [show (w.alloc (.cells #[.slice da dn dc, .slice va vn vc, .int .i64 seq, .int .i64 next] 33)).heap.size = w.heap.size + 1 by simp] at this
    exact this
  have U0 : Hid (Below w.heap.size w w0) := by rw [hw0]; exact up_al (up_alloc _ _) _
  have HI : Hid (Calls Try.prog 36 #[.slice da dn dc, .slice ea en ec] w0 fun e w' => e = .returned (.bool true) ∧ ∃ d, w' = w0.drewN d) := by
    refine (sameInts_any is is _ _ w0 (Rws.up hd U0.out) (Rws.up he U0.out)).mono ?_
    rintro e w' ⟨rfl, d, rfl⟩
    exact ⟨by simp, d, rfl⟩
  have HC : Hid (∀ d, Calls Try.prog 19 #[.slice va vn vc, .slice ua un uc] (w0.drewN d) fun e w' => e = .returned (.bool true) ∧ ∃ d', w' = (w0.drewN d).drewN d') := fun d => sameMetas_self l _ _ _ (hv.up (up_trans U0.out (up_drewN _ _))) (hu.up (up_trans U0.out (up_drewN _ _)))
  have q0 := blk_cell B0.out 0 _ rfl
  have q1 := blk_cell B0.out 1 _ rfl
  have q2 := blk_cell B0.out 2 _ rfl
  have q3 := blk_cell B0.out 3 _ rfl
  have p0 := blk_cell B1.out 0 _ rfl
  have p1 := blk_cell B1.out 1 _ rfl
  have p2 := blk_cell B1.out 2 _ rfl
  have p3 := blk_cell B1.out 3 _ rfl
  clear hd he hv hu hw0
  go_enter Try.func18, Try.ntmps18
  go_upto_region 1 with fail
  rw [HW0.out]
  go_wp2_with fail
  refine HI.out.mono ?_
  rintro e w1 ⟨rfl, d, rfl⟩
  go_wp2_with fail
  refine (HC.out d).mono ?_
  rintro e w1 ⟨rfl, d', rfl⟩
  go_wp2_with fail
  go_ret
  exact ⟨rfl, up_trans U0.out (up_drewN _ _)⟩
end Go.Proofs.Ytbknoplfjfnbcaa
