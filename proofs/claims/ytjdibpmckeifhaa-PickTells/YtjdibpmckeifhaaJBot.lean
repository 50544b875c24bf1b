/- The program's isBottom. -/
import Derived.Test.YtjdibpmckeifhaaJTou
namespace Go.Proofs.Ytjdibpmckeifhaa
open Go.RowKit
set_option linter.unusedVariables false
set_option linter.unusedSimpArgs false

def botB (ts : List Me) (lev : Int) (f t : ByteArray) (k : Nat) : Bool := (List.range k).all (fun j : Nat => !(decide (lev < (j : Int))) || (touchM ts j f t).isEmpty)
theorem botB_step (ts : List Me) (lev : Int) (f t : ByteArray) (k : Nat) : botB ts lev f t (k + 1) = (botB ts lev f t k && (!(decide (lev < (k : Int))) || (touchM ts k f t).isEmpty)) := by
  unfold botB
  rw [List.range_succ, List.all_append]
  simp only [List.all_cons, List.all_nil, Bool.and_true]
theorem botB_false {ts : List Me} {lev : Int} {f t : ByteArray} {k : Nat} (hk : k < 4) (h : botB ts lev f t (k + 1) = false) : botB ts lev f t 4 = false := by
  have h1 : ∀ j, botB ts lev f t j = false → botB ts lev f t (j + 1) = false := fun j q => by rw [botB_step, q]; rfl
  have e : k = 0 ∨ k = 1 ∨ k = 2 ∨ k = 3 := by omega
  rcases e with rfl | rfl | rfl | rfl
  · exact h1 _ (h1 _ (h1 _ h))
  · exact h1 _ (h1 _ h)
  · exact h1 _ h
  · exact h
/-- No table lies below the last level. -/
theorem touch_none {ts : List Me} {s n : Int} (h : errV ts s n = 0) (lev : Int) (hl : 3 < lev) (f t : ByteArray) : touchM ts lev f t = [] := by
  rw [List.eq_nil_iff_forall_not_mem]
  intro m hm
  have h1 := mem_touch.1 hm
  have h2 := chk_nums h h1.1
  omega
theorem botB_plan {ts : List Me} {s n : Int} (h : errV ts s n = 0) (lev : Int) (hl : lev = 0 ∨ lev = 1 ∨ lev = 2) (f t : ByteArray) : botB ts (lev + 1) f t 4 = ((touchM ts (lev + 2) f t).isEmpty && (touchM ts (lev + 3) f t).isEmpty) := by
  rw [botB_step, botB_step, botB_step, botB_step]
  have e0 : botB ts (lev + 1) f t 0 = true := rfl
  rw [e0]
  rcases hl with rfl | rfl | rfl
  · simp
  · have := touch_none h 4 (by decide) f t
    simp [this]
  · have h4 := touch_none h 4 (by decide) f t
    have h5 := touch_none h 5 (by decide) f t
    simp [h4, h5]
set_option maxHeartbeats 4000000 in
set_option maxRecDepth 100000 in
theorem isBottom_any (ts : List Me) (seq next lev : Int) (f t : ByteArray) (va : Option Addr) (vn vc : Nat) (w : World) (hv : MetsR w (.slice va vn vc) ts) (he : errV ts seq next = 0) :
    Calls Try.prog 31 #[.agg #[.slice va vn vc, .int .i64 seq, .int .i64 next], .int .i64 lev, .string f, .string t] w fun e w' => e = .returned (.bool (botB ts lev f t 4)) ∧ Hid (Below w.heap.size w w') := by
  have HV : Hid (MetsR w (.slice va vn vc) ts) := hv
  have HE : Hid (errV ts seq next = 0) := he
  clear hv he
  obtain ⟨w0, hw0⟩ : ∃ w0, w0 = w.alloc (.cells #[.slice va vn vc, .int .i64 seq, .int .i64 next] 27) := ⟨_, rfl⟩
  have HW0 : Hid (w.alloc (.cells #[.slice va vn vc, .int .i64 seq, .int .i64 next] 27) = w0) := hw0.symm
  have U0 : Hid (Below w.heap.size w w0) := by rw [hw0]; exact up_alloc _ _
  have B0 : Hid (w0.heap[w.heap.size]? = some (.cells #[.slice va vn vc, .int .i64 seq, .int .i64 next] 27)) := by rw [hw0]; exact blk_new _ _
  clear hw0
  obtain ⟨R, hR⟩ : ∃ R, R = botB ts lev f t 4 := ⟨_, rfl⟩
  have HR : Hid (R = botB ts lev f t 4) := hR
  rw [← hR]
  clear hR
  go_enter Try.func31, Try.ntmps31
  go_upto_region 1 with fail
  rw [HW0.out]
  clear HW0
  go_wp2_with fail
  go_loopw [10] (fun i wr => ∃ (k : Nat), k ≤ 4 ∧ i = .int .i64 k ∧ Hid (botB ts lev f t k = true) ∧ Hid (Below w0.heap.size w0 wr)) (fun i _ => 4 - (intOf i).toNat)
  case atStart => exact ⟨0, Nat.zero_le _, rfl, rfl, Below.refl _ _⟩
  case round =>
    obtain ⟨k, hk, rfl, HK, HB⟩ := hrel
    by_cases hlt : k < 4
    · have hlt' : (k : Int) < 4 := by omega
      have BB := hid (blk_up B0.out HB.out)
      have y0 := blk_cell BB.out 0 _ rfl
      have y1 := blk_cell BB.out 1 _ rfl
      have y2 := blk_cell BB.out 2 _ rfl
      have HST := hid (botB_step ts lev f t k)
      rw [HK.out] at HST
      by_cases hq : lev < (k : Int)
      · have HCA : Hid (Calls Try.prog 25 #[.agg #[.slice va vn vc, .int .i64 seq, .int .i64 next], .int .i64 k] wr fun e w' => ∃ a n c, e = .returned (.slice a n c) ∧ Hid (OwnR w' wr.heap.size 70 5 (.slice a n c) ((atM ts k).map meRow)) ∧ Hid (Below wr.heap.size wr w')) := pat_any ts seq next k va vn vc wr ((HV.out.up U0.out).up HB.out) HE.out
        have HLA : Hid ((atM ts k).length ≤ 256) := (cnt_at HE.out k).1
        rw [decide_eq_true hq] at HST
        have HTE : Hid ((touchM ts k f t).isEmpty = decide (((atM ts k).filter (hitM f t)).length = 0)) := by
          unfold Hid touchM
          cases (atM ts k).filter (hitM f t) <;> simp
        go_wp2_with fail
        refine HCA.out.mono ?_
        rintro e w2 ⟨ra, rn, rc, rfl, O2, u2⟩
        have HC2 := hid (touched_any (atM ts k) f t (.slice ra rn rc) wr.heap.size w2 O2.out (by have := HLA.out; omega) u2.out.size)
        clear HCA O2
        go_wp2_with fail
        refine HC2.out.mono ?_
        rintro e w3 ⟨sa, sn, sc, rfl, HN2, O3, u3⟩
        have U3 := hid (up_trans HB.out (u2.out.trans u3.out))
        rw [← HN2.out] at HTE
        clear HC2 O3 HN2 u2 u3 y0 y1 y2
        by_cases hz : sn = 0
        · subst hz
          have HK2 : Hid (botB ts lev f t (k + 1) = true) := by
            unfold Hid; rw [HST.out, HTE.out]; rfl
          clear HST HTE
          go_wp2_with fail
          exact ⟨⟨k + 1, by omega, by go_num, HK2, U3⟩, by simp [intOf]; omega⟩
        · have hz' : (0 : Int) < (sn : Int) := by omega
          have HF : Hid (botB ts lev f t 4 = false) := by
            refine botB_false hlt ?_
            rw [HST.out, HTE.out, decide_eq_false hz]; rfl
          rw [HF.out] at HR
          clear HST HTE
          go_wp2_with fail
          go_ret
          exact ⟨ret_bool HR.out.symm, up_trans U0.out U3.out⟩
      · rw [decide_eq_false hq] at HST
        have HK2 : Hid (botB ts lev f t (k + 1) = true) := by
          unfold Hid; rw [HST.out]; rfl
        clear HST
        go_wp2_with fail
        exact ⟨⟨k + 1, by omega, by go_num, HK2, HB⟩, by simp [intOf]; omega⟩
    · have hlt' : ¬ (k : Int) < 4 := by omega
      obtain rfl : k = 4 := by omega
      rw [HK.out] at HR
      go_wp2_with fail
      go_ret
      exact ⟨ret_bool HR.out.symm, up_trans U0.out HB.out⟩
end Go.Proofs.Ytjdibpmckeifhaa
