/- The program's Touch. -/
import Derived.Test.YtjdibpmckeifhaaJTou
import Derived.Test.YtjdibpmckeifhaaJIds
namespace Go.Proofs.Ytjdibpmckeifhaa
open Go.RowKit
set_option linter.unusedVariables false
set_option linter.unusedSimpArgs false

def tchM (ts : List Me) (seq next lev : Int) (f t : ByteArray) : List Int := if errV ts seq next = 0 then (touchM ts lev f t).map (·.id) else []
def TchE (w : World) (ts : List Me) (seq next lev : Int) (f t : ByteArray) (e : Ending) (w' : World) : Prop :=
  ∃ a n c, e = .returned (.tuple #[.slice a n c, .int .i64 (errV ts seq next)]) ∧ Hid (OwnR w' w.heap.size 3 1 (.slice a n c) ((tchM ts seq next lev f t).map irow)) ∧ Hid (Below w.heap.size w w')
set_option maxHeartbeats 4000000 in
set_option maxRecDepth 100000 in
theorem touch_any (ts : List Me) (seq next lev : Int) (f t : ByteArray) (va : Option Addr) (vn vc : Nat) (w : World) (hv : MetsR w (.slice va vn vc) ts) :
    Calls Try.prog 13 #[.agg #[.slice va vn vc, .int .i64 seq, .int .i64 next], .int .i64 lev, .string f, .string t] w (TchE w ts seq next lev f t) := by
  obtain ⟨Post, hP⟩ : ∃ Post : Ending → World → Prop, Post = TchE w ts seq next lev f t := ⟨_, rfl⟩
  have HP : Hid (∀ e w', TchE w ts seq next lev f t e w' → Post e w') := fun e w' h => by rw [hP]; exact h
  rw [← hP]
  clear hP
  obtain ⟨w0, hw0⟩ : ∃ w0, w0 = w.alloc (.cells #[.slice va vn vc, .int .i64 seq, .int .i64 next] 27) := ⟨_, rfl⟩
  have HW0 : Hid (w.alloc (.cells #[.slice va vn vc, .int .i64 seq, .int .i64 next] 27) = w0) := hw0.symm
  have U0 : Hid (Below w.heap.size w w0) := by rw [hw0]; exact up_alloc _ _
  have B0 : Hid (w0.heap[w.heap.size]? = some (.cells #[.slice va vn vc, .int .i64 seq, .int .i64 next] 27)) := by rw [hw0]; exact blk_new _ _
  have HCA : Hid (Calls Try.prog 34 #[.agg #[.slice va vn vc, .int .i64 seq, .int .i64 next], .int .i64 lev] w0 (AtE w0 ts seq next lev)) := at_any ts seq next lev va vn vc w0 (hv.up U0.out)
  clear hv hw0
  have x0 := blk_cell B0.out 0 _ rfl
  have x1 := blk_cell B0.out 1 _ rfl
  have x2 := blk_cell B0.out 2 _ rfl
  go_enter Try.func13, Try.ntmps13
  go_upto_region 1 with fail
  rw [HW0.out]
  clear HW0
  rcases errV_cases ts seq next with hc | hc
  case inr =>
    have HR : Hid (errV ts seq next = 9) := hc
    have HT : Hid (tchM ts seq next lev f t = []) := by unfold Hid tchM; rw [if_neg (by rw [hc]; decide)]
    replace HCA : Hid (Calls Try.prog 34 #[.agg #[.slice va vn vc, .int .i64 seq, .int .i64 next], .int .i64 lev] w0 fun e w' => e = .returned (.tuple #[.slice none 0 0, .int .i64 9]) ∧ Hid (Below w0.heap.size w0 w')) := HCA.out.mono (fun e w' h => by unfold AtE at h; rw [if_neg (by rw [hc]; decide)] at h; exact h)
    clear hc
    go_wp2_with fail
    refine HCA.out.mono ?_
    rintro e w1 ⟨rfl, u1⟩
    go_wp2_with fail
    refine HP.out _ _ ?_
    exact ⟨none, 0, 0, by rw [HR.out]; rfl, by rw [HT.out]; exact OwnR.nil _ _ _ _, up_trans U0.out u1.out⟩
  have HR : Hid (errV ts seq next = 0) := hc
  have HT : Hid ((tchM ts seq next lev f t).map irow = idR ((atM ts lev).filter (hitM f t))) := by unfold Hid tchM; rw [if_pos hc]; rfl
  have HLA : Hid ((atM ts lev).length ≤ 256) := (cnt_at hc lev).1
  replace HCA : Hid (Calls Try.prog 34 #[.agg #[.slice va vn vc, .int .i64 seq, .int .i64 next], .int .i64 lev] w0 fun e w' => ∃ a n c, e = .returned (.tuple #[.slice a n c, .int .i64 0]) ∧ Hid (OwnR w' w0.heap.size 70 5 (.slice a n c) ((atM ts lev).map meRow)) ∧ Hid (Below w0.heap.size w0 w')) := HCA.out.mono (fun e w' h => by unfold AtE at h; rw [if_pos hc] at h; exact h)
  clear hc
  go_wp2_with fail
  refine HCA.out.mono ?_
  rintro e w1 ⟨ra, rn, rc, rfl, O1, u1⟩
  have HU := hid u1.out
  have HC2 := hid (touched_any (atM ts lev) f t (.slice ra rn rc) w0.heap.size w1 O1.out (by have := HLA.out; omega) u1.out.size)
  clear u1 O1 HCA
  go_wp2_with fail
  refine HC2.out.mono ?_
  rintro e w2 ⟨sa, sn, sc, rfl, HN2, O2, u2⟩
  have U2 := hid (HU.out.trans u2.out)
  have HC3 := hid (ids_any ((atM ts lev).filter (hitM f t)) (.slice sa sn sc) w2 (Rws.own O2.out) (by have := HLA.out; have := List.length_filter_le (hitM f t) (atM ts lev); omega))
  clear HC2 O2 HN2 u2
  go_wp2_with fail
  refine HC3.out.mono ?_
  rintro e w3 ⟨qa, qn, qc, rfl, O3, u3⟩
  go_wp2_with fail
  refine HP.out _ _ ?_
  have U3 := up_trans U0.out (up_trans U2.out u3.out)
  refine ⟨qa, qn, qc, by rw [HR.out]; rfl, ?_, U3⟩
  rw [HT.out]
  exact O3.out.mono (up_trans U0.out U2.out).size
end Go.Proofs.Ytjdibpmckeifhaa
