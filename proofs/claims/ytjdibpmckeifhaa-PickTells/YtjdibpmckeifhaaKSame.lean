/- The law's same of equal plans. -/
import Derived.Test.YtjdibpmckeifhaaJFullP
import Derived.Test.YtjdibpmckeifhaaJTch
import Derived.Test.YtjdibpmckeifhaaJChM
import Derived.Test.YtjdibpmckeifhaaLInts
namespace Go.Proofs.Ytjdibpmckeifhaa
open Go.RowKit
set_option linter.unusedVariables false
set_option linter.unusedSimpArgs false

set_option maxHeartbeats 4000000 in
set_option maxRecDepth 100000 in
theorem samePlan_self (lev : Int) (ids : List Int) (bot : Bool) (a a2 : Option Addr) (n c n2 c2 : Nat) (w : World) (h1 : IntsR w (.slice a n c) ids) (h2 : IntsR w (.slice a2 n2 c2) ids) :
    Calls Try.prog 17 #[.agg #[.int .i64 lev, .slice a n c, .bool bot], .agg #[.int .i64 lev, .slice a2 n2 c2, .bool bot]] w fun e w' => e = .returned (.bool true) ∧ Hid (Below w.heap.size w w') := by
  obtain ⟨w0, hw0⟩ : ∃ w0, w0 = (w.alloc (.cells #[.int .i64 lev, .slice a n c, .bool bot] 36)).alloc (.cells #[.int .i64 lev, .slice a2 n2 c2, .bool bot] 39) := ⟨_, rfl⟩
  have HW0 : Hid ((w.alloc (.cells #[.int .i64 lev, .slice a n c, .bool bot] 36)).alloc (.cells #[.int .i64 lev, .slice a2 n2 c2, .bool bot] 39) = w0) := hw0.symm
  have U0 : Hid (Below w.heap.size w w0) := by rw [hw0]; exact up_al (up_alloc _ _) _
  have B0 : Hid (w0.heap[w.heap.size]? = some (.cells #[.int .i64 lev, .slice a n c, .bool bot] 36)) := by rw [hw0]; exact blk_up (blk_new _ _) (up_alloc _ _)
  have B1 : Hid (w0.heap[w.heap.size + 1]? = some (.cells #[.int .i64 lev, .slice a2 n2 c2, .bool bot] 39)) := by
    rw [hw0]
    have := blk_new (w.alloc (.cells #[.int .i64 lev, .slice a n c, .bool bot] 36)) (.cells #[.int .i64 lev, .slice a2 n2 c2, .bool bot] 39)
    rw [show (w.alloc (.cells #[.int .i64 lev, .slice a n c, .bool bot] 36)).heap.size = w.heap.size + 1 by simp] at this
    exact this
  have HC : Hid (Calls Try.prog 15 #[.slice a n c, .slice a2 n2 c2] w0 fun e w' => e = .returned (.bool true) ∧ ∃ d, w' = w0.drewN d) := (sameInts_any ids ids _ _ w0 (h1.up U0.out) (h2.up U0.out)).mono (fun e w' h => by rw [decide_eq_true rfl] at h; exact h)
  clear h1 h2 hw0
  have x0 := blk_cell B0.out 0 _ rfl
  have x1 := blk_cell B0.out 1 _ rfl
  have x2 := blk_cell B0.out 2 _ rfl
  have y0 := blk_cell B1.out 0 _ rfl
  have y1 := blk_cell B1.out 1 _ rfl
  have y2 := blk_cell B1.out 2 _ rfl
  go_enter Try.func17, Try.ntmps17
  go_upto_region 1 with fail
  rw [HW0.out]
  clear HW0
  go_wp2_with fail
  refine HC.out.mono ?_
  rintro e w1 ⟨rfl, d, rfl⟩
  go_wp2_with fail
  go_ret
  exact ⟨rfl, up_trans U0.out (up_drewN _ _)⟩
def fulL (ts : List Me) (seq next : Int) : List Int := if errV ts seq next = 0 then fullM ts else []
theorem fullE_eq {w : World} {ts : List Me} {seq next : Int} {e : Ending} {w' : World} (h : FullE w ts seq next e w') : ∃ a n c, e = .returned (.tuple #[.slice a n c, .int .i64 (errV ts seq next)]) ∧ Hid (IntsR w' (.slice a n c) (fulL ts seq next)) ∧ Hid (Below w.heap.size w w') := by
  unfold FullE at h
  unfold fulL
  rcases errV_cases ts seq next with hc | hc
  · rw [if_pos hc] at h
    obtain ⟨a, n, c, rfl, O, u⟩ := h
    rw [if_pos hc, hc]
    exact ⟨a, n, c, rfl, Rws.own O.out, u⟩
  · rw [if_neg (by rw [hc]; decide)] at h
    rw [if_neg (by rw [hc]; decide), hc]
    exact ⟨none, 0, 0, h.1, Rws.nil 1 _, h.2⟩
theorem tchE_eq {w : World} {ts : List Me} {seq next lev : Int} {f t : ByteArray} {e : Ending} {w' : World} (h : TchE w ts seq next lev f t e w') : ∃ a n c, e = .returned (.tuple #[.slice a n c, .int .i64 (errV ts seq next)]) ∧ Hid (IntsR w' (.slice a n c) (tchM ts seq next lev f t)) ∧ Hid (Below w.heap.size w w') := by
  obtain ⟨a, n, c, rfl, O, u⟩ := h
  exact ⟨a, n, c, rfl, Rws.own O.out, u⟩
theorem same_eq (l : List Int) (v u : Value) (w : World) (hv : IntsR w v l) (hu : IntsR w u l) : Calls Try.prog 15 #[v, u] w fun e w' => e = .returned (.bool true) ∧ Hid (Below w.heap.size w w') := by
  refine (sameInts_any l l v u w hv hu).mono ?_
  rintro e w' ⟨rfl, d, rfl⟩
  exact ⟨by rw [decide_eq_true rfl], up_drewN _ _⟩
end Go.Proofs.Ytjdibpmckeifhaa
