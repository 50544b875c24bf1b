/- The program's at, the document's at; what a version that may be says of counts. -/
import Derived.Test.YtjdibpmckeifhaaAAt
import Derived.Test.YtjdibpmckeifhaaRWho
import Derived.Test.YtjdibpmckeifhaaPMath
namespace Go.Proofs.Ytjdibpmckeifhaa
open Go.RowKit
set_option linter.unusedVariables false
set_option linter.unusedSimpArgs false

theorem at_lvl (ts : List Me) (lev : Int) : ts.filter (lvlM lev) = atM ts lev := rfl
def CntL (l : List Me) : Prop := l.length ≤ 256 ∧ ∀ m ∈ l, 1 ≤ m.cnt ∧ m.cnt ≤ 4096
theorem chk_all {ts : List Me} {s n : Int} (h : errV ts s n = 0) : allM n [] ts = true := by
  have := errV_zero.1 h
  unfold chkV at this
  rw [Bool.and_eq_true] at this
  exact this.2
theorem chk_may {ts : List Me} {s n : Int} (h : errV ts s n = 0) {m : Me} (hm : m ∈ ts) : mayM m = true := by
  obtain ⟨k, hk⟩ := List.getElem?_of_mem hm
  have := allM_at n ts [] (chk_all h) k m hk
  unfold okM at this
  simp only [Bool.and_eq_true] at this
  exact this.1
theorem chk_le {ts : List Me} {s n : Int} (h : errV ts s n = 0) {m : Me} (hm : m ∈ ts) : leM m.low m.high = true := by
  have := chk_may h hm
  unfold mayM at this
  simp only [Bool.and_eq_true] at this
  exact this.2.2.2
theorem chk_nums {ts : List Me} {s n : Int} (h : errV ts s n = 0) {m : Me} (hm : m ∈ ts) : 1 ≤ m.id ∧ m.id ≤ 2147483647 ∧ 0 ≤ m.lvl ∧ m.lvl ≤ 3 ∧ 1 ≤ m.cnt ∧ m.cnt ≤ 4096 := by
  have := chk_may h hm
  unfold mayM at this
  simp only [Bool.and_eq_true, decide_eq_true_eq] at this
  exact this.1
theorem cnt_at {ts : List Me} {s n : Int} (h : errV ts s n = 0) (lev : Int) : CntL (atM ts lev) := by
  refine ⟨?_, fun m hm => ?_⟩
  · have := chk_len h
    have := List.length_filter_le (fun m : Me => decide (m.lvl = lev)) ts
    unfold atM
    omega
  · have := chk_nums h (mem_at.1 hm).1
    exact ⟨this.2.2.2.2.1, this.2.2.2.2.2⟩
theorem cntM_snoc (l : List Me) (k : Nat) (x : Me) (h : l[k]? = some x) : cntM (l.take (k + 1)) = cntM (l.take k) + x.cnt := by
  unfold cntM
  rw [List.take_add_one, h, List.map_append, List.sum_append]
  simp
theorem cntM_bnd : ∀ (l : List Me), (∀ m ∈ l, 1 ≤ m.cnt ∧ m.cnt ≤ 4096) → 0 ≤ cntM l ∧ cntM l ≤ 4096 * l.length
  | [], _ => by simp [cntM]
  | x :: r, h => by
    have h1 := cntM_bnd r (fun m hm => h m (List.mem_cons_of_mem _ hm))
    have h2 := h x List.mem_cons_self
    unfold cntM at *
    simp only [List.map_cons, List.sum_cons, List.length_cons]
    omega
theorem cntM_take {l : List Me} (h : CntL l) (k : Nat) : 0 ≤ cntM (l.take k) ∧ cntM (l.take k) ≤ 1048576 := by
  have h1 := cntM_bnd (l.take k) (fun m hm => h.2 m (List.mem_of_mem_take hm))
  have h2 := h.1
  rw [List.length_take] at h1
  omega
set_option maxHeartbeats 4000000 in
set_option maxRecDepth 100000 in
theorem pat_any (ts : List Me) (seq next lev : Int) (va : Option Addr) (vn vc : Nat) (w : World) (hv : MetsR w (.slice va vn vc) ts) (he : errV ts seq next = 0) :
    Calls Try.prog 25 #[.agg #[.slice va vn vc, .int .i64 seq, .int .i64 next], .int .i64 lev] w fun e w' => ∃ a n c, e = .returned (.slice a n c) ∧ Hid (OwnR w' w.heap.size 70 5 (.slice a n c) ((atM ts lev).map meRow)) ∧ Hid (Below w.heap.size w w') := by
  obtain ⟨w0, hw0⟩ : ∃ w0, w0 = w.alloc (.cells #[.slice va vn vc, .int .i64 seq, .int .i64 next] 27) := ⟨_, rfl⟩
  have HW0 : Hid (w.alloc (.cells #[.slice va vn vc, .int .i64 seq, .int .i64 next] 27) = w0) := hw0.symm
  have U0 : Hid (Below w.heap.size w w0) := by rw [hw0]; exact up_alloc _ _
  have B0 : Hid (w0.heap[w.heap.size]? = some (.cells #[.slice va vn vc, .int .i64 seq, .int .i64 next] 27)) := by rw [hw0]; exact blk_new _ _
  have HCA : Hid (Calls Try.prog 34 #[.agg #[.slice va vn vc, .int .i64 seq, .int .i64 next], .int .i64 lev] w0 fun e w' => ∃ a n c, e = .returned (.tuple #[.slice a n c, .int .i64 0]) ∧ Hid (OwnR w' w0.heap.size 70 5 (.slice a n c) ((atM ts lev).map meRow)) ∧ Hid (Below w0.heap.size w0 w')) := by
    refine (at_any ts seq next lev va vn vc w0 (hv.up U0.out)).mono ?_
    intro e w' h
    unfold AtE at h
    rw [if_pos he] at h
    exact h
  clear hv he hw0
  have x0 := blk_cell B0.out 0 _ rfl
  have x1 := blk_cell B0.out 1 _ rfl
  have x2 := blk_cell B0.out 2 _ rfl
  go_enter Try.func25, Try.ntmps25
  go_upto_region 1 with fail
  rw [HW0.out]
  clear HW0
  go_wp2_with fail
  refine HCA.out.mono ?_
  rintro e w1 ⟨ra, rn, rc, rfl, O1, u1⟩
  go_wp2_with fail
  go_ret
  exact ⟨ra, rn, rc, rfl, O1.out.mono U0.out.size, up_trans U0.out u1.out⟩
set_option maxHeartbeats 4000000 in
set_option maxRecDepth 100000 in
theorem rat_any (ts : List Me) (seq next lev : Int) (va : Option Addr) (vn vc : Nat) (w : World) (hv : MetsR w (.slice va vn vc) ts) (he : errV ts seq next = 0) :
    Calls Try.prog 33 #[.agg #[.slice va vn vc, .int .i64 seq, .int .i64 next], .int .i64 lev] w fun e w' => ∃ a n c, e = .returned (.slice a n c) ∧ Hid (OwnR w' w.heap.size 52 5 (.slice a n c) ((atM ts lev).map meRow)) ∧ Hid (Below w.heap.size w w') := by
  obtain ⟨w0, hw0⟩ : ∃ w0, w0 = w.alloc (.cells #[.slice va vn vc, .int .i64 seq, .int .i64 next] 24) := ⟨_, rfl⟩
  have HW0 : Hid (w.alloc (.cells #[.slice va vn vc, .int .i64 seq, .int .i64 next] 24) = w0) := hw0.symm
  have U0 : Hid (Below w.heap.size w w0) := by rw [hw0]; exact up_alloc _ _
  have B0 : Hid (w0.heap[w.heap.size]? = some (.cells #[.slice va vn vc, .int .i64 seq, .int .i64 next] 24)) := by rw [hw0]; exact blk_new _ _
  have HCA : Hid (Calls Try.prog 45 #[.agg #[.slice va vn vc, .int .i64 seq, .int .i64 next], .int .i64 lev] w0 fun e w' => ∃ a n c, e = .returned (.tuple #[.slice a n c, .int .i64 0]) ∧ Hid (OwnR w' w0.heap.size 52 5 (.slice a n c) ((atM ts lev).map meRow)) ∧ Hid (Below w0.heap.size w0 w')) := by
    refine (refAt_any ts seq next lev va vn vc w0 (hv.up U0.out)).mono ?_
    intro e w' h
    unfold AtR at h
    rw [if_pos he] at h
    exact h
  clear hv he hw0
  have x0 := blk_cell B0.out 0 _ rfl
  have x1 := blk_cell B0.out 1 _ rfl
  have x2 := blk_cell B0.out 2 _ rfl
  go_enter Try.func33, Try.ntmps33
  go_upto_region 1 with fail
  rw [HW0.out]
  clear HW0
  go_wp2_with fail
  refine HCA.out.mono ?_
  rintro e w1 ⟨ra, rn, rc, rfl, O1, u1⟩
  go_wp2_with fail
  go_ret
  exact ⟨ra, rn, rc, rfl, O1.out.mono U0.out.size, up_trans U0.out u1.out⟩
end Go.Proofs.Ytjdibpmckeifhaa
