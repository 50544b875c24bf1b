/- PickTouches, walked. -/
import Derived.Test.YtjdibpmckeifhaaJAlive
import Derived.Test.YtjdibpmckeifhaaLOf
import Derived.Test.YtjdibpmckeifhaaRChk
import Derived.Test.YtjdibpmckeifhaaJTch
namespace Go.Proofs.Ytjdibpmckeifhaa
open Go.RowKit
set_option linter.unusedVariables false
set_option linter.unusedSimpArgs false

def hitL (lev : Int) (f t : ByteArray) (m : Me) : Bool := decide (m.lvl = lev) && hitM f t m
theorem touch_hitL (ts : List Me) (lev : Int) (f t : ByteArray) : touchM ts lev f t = ts.filter (hitL lev f t) := by
  unfold touchM atM
  rw [List.filter_filter]
  refine List.filter_congr fun m _ => ?_
  unfold hitL
  exact Bool.and_comm _ _
theorem hitL_cases (lev : Int) (f t : ByteArray) (m : Me) :
    ((m.lvl == lev) = false ∧ hitL lev f t m = false) ∨
    ((m.lvl == lev) = true ∧ (Op.bytesLess f.toList t.toList || (f.toList == t.toList)) = false ∧ hitL lev f t m = false) ∨
    ((m.lvl == lev) = true ∧ (Op.bytesLess f.toList t.toList || (f.toList == t.toList)) = true ∧ (Op.bytesLess m.low.toList t.toList || (m.low.toList == t.toList)) = false ∧ hitL lev f t m = false) ∨
    ((m.lvl == lev) = true ∧ (Op.bytesLess f.toList t.toList || (f.toList == t.toList)) = true ∧ (Op.bytesLess m.low.toList t.toList || (m.low.toList == t.toList)) = true ∧ (Op.bytesLess f.toList m.high.toList || (f.toList == m.high.toList)) = false ∧ hitL lev f t m = false) ∨
    ((m.lvl == lev) = true ∧ (Op.bytesLess f.toList t.toList || (f.toList == t.toList)) = true ∧ (Op.bytesLess m.low.toList t.toList || (m.low.toList == t.toList)) = true ∧ (Op.bytesLess f.toList m.high.toList || (f.toList == m.high.toList)) = true ∧ hitL lev f t m = true) := by
  have e1 : decide (m.lvl = lev) = (m.lvl == lev) := by rw [Bool.eq_iff_iff]; simp
  have e : hitL lev f t m = ((m.lvl == lev) && ((Op.bytesLess f.toList t.toList || (f.toList == t.toList)) && ((Op.bytesLess m.low.toList t.toList || (m.low.toList == t.toList)) && (Op.bytesLess f.toList m.high.toList || (f.toList == m.high.toList))))) := by
    unfold hitL hitM leM
    rw [e1]
  rw [e]
  generalize (m.lvl == lev) = a
  generalize (Op.bytesLess f.toList t.toList || (f.toList == t.toList)) = b
  generalize (Op.bytesLess m.low.toList t.toList || (m.low.toList == t.toList)) = c
  generalize (Op.bytesLess f.toList m.high.toList || (f.toList == m.high.toList)) = d
  cases a <;> cases b <;> cases c <;> cases d <;> simp
def cntT (ts : List Me) (lev : Int) (f t : ByteArray) (k : Nat) : Nat := ((ts.take k).filter (hitL lev f t)).length
theorem cntT_step {ts : List Me} {k : Nat} {x : Me} (h : ts[k]? = some x) (lev : Int) (f t : ByteArray) : cntT ts lev f t (k + 1) = cntT ts lev f t k + (if hitL lev f t x = true then 1 else 0) := by
  unfold cntT
  rw [List.take_add_one, h, Option.toList_some, List.filter_append, List.length_append]
  congr 1
  cases q : hitL lev f t x <;> simp [q]
theorem cntT_le (ts : List Me) (lev : Int) (f t : ByteArray) (k : Nat) : cntT ts lev f t k ≤ ts.length := by
  have := List.length_filter_le (hitL lev f t) (ts.take k)
  rw [List.length_take] at this
  unfold cntT
  omega
theorem hitL_in {next : Int} {ts : List Me} (h : allM next [] ts = true) (lev : Int) (f t : ByteArray) {m : Me} (hm : m ∈ ts) : decide (m.id ∈ (touchM ts lev f t).map (·.id)) = hitL lev f t m := by
  rw [Bool.eq_iff_iff, decide_eq_true_iff, touches_in h lev f t hm]
  unfold hitL
  simp
set_option maxHeartbeats 4000000 in
set_option maxRecDepth 100000 in
theorem touches_walk (ts : List Me) (seq next : Int) (lev : Int) (f t : ByteArray) (va : Option Addr) (vn vc : Nat) (w : World) (hv : MetsR w (.slice va vn vc) ts) (hl : ts.length ≤ 4000000000000) :
    Calls Try.prog 6 #[.agg #[.slice va vn vc, .int .i64 seq, .int .i64 next], .int .i64 lev, .string f, .string t] w fun e w' => e = .returned (.bool true) ∧ Below w.heap.size w w' := by
  obtain ⟨a', c', e', hc1, hc2⟩ := hv.len
  simp only [Value.slice.injEq] at e'
  obtain ⟨rfl, rfl, rfl⟩ := e'
  have HV : Hid (MetsR w (.slice va ts.length vc) ts) := hv
  have HL : Hid (ts.length ≤ 4000000000000) := hl
  clear hv hl hc1 hc2
  obtain ⟨w0, hw0⟩ : ∃ w0, w0 = w.alloc (.cells #[.slice va ts.length vc, .int .i64 seq, .int .i64 next] 24) := ⟨_, rfl⟩
  have HW0 : Hid (w.alloc (.cells #[.slice va ts.length vc, .int .i64 seq, .int .i64 next] 24) = w0) := hw0.symm
  have U0 : Hid (Below w.heap.size w w0) := by rw [hw0]; exact up_alloc _ _
  have B0 : Hid (w0.heap[w.heap.size]? = some (.cells #[.slice va ts.length vc, .int .i64 seq, .int .i64 next] 24)) := by rw [hw0]; exact blk_new _ _
  clear hw0
  have x0 := blk_cell B0.out 0 _ rfl
  have x1 := blk_cell B0.out 1 _ rfl
  have x2 := blk_cell B0.out 2 _ rfl
  have HAL := hid (alive_any w0)
  generalize hNB : w.heap.size = NB at *
  have HNB := hid hNB
  clear hNB
  go_enter Try.func6, Try.ntmps6
  go_upto_region 1 with fail
  rw [HW0.out, HNB.out]
  clear HW0
  go_wp2_with fail
  refine HAL.out.mono ?_
  rintro e w1 ⟨rfl, u1⟩
  have U1 : Hid (Below NB w w1) := U0.out.trans (u1.out.mono (Nat.le_of_lt (blk_lt B0.out)))
  have B1 := hid (blk_up B0.out u1.out)
  have HV1 : Hid (MetsR w1 (.slice va ts.length vc) ts) := HV.out.up (by rw [HNB.out]; exact U1.out)
  clear u1 HAL x0 x1 x2 U0 B0
  clear w0
  have x0 := blk_cell B1.out 0 _ rfl
  have x1 := blk_cell B1.out 1 _ rfl
  have x2 := blk_cell B1.out 2 _ rfl
  have HOF := hid (of_any ts seq next va ts.length vc w1 HV1.out HL.out)
  go_wp2_with fail
  refine HOF.out.mono ?_
  rintro e w2 ⟨oa, on, oc, rfl, HO2, u2⟩
  have U2 : Hid (Below NB w w2) := U1.out.trans (u2.out.mono (Nat.le_of_lt (blk_lt B1.out)))
  have B2 := hid (blk_up B1.out u2.out)
  have HV2 := hid (HV1.out.up u2.out)
  have HM2 : Hid (MetsR w2 (.slice oa on oc) ts) := HO2.out.read
  clear u2 HOF x0 x1 x2 U1 B1 HO2 HV1
  clear w1
  have HCT : Hid (Calls Try.prog 13 #[.agg #[.slice oa on oc, .int .i64 seq, .int .i64 next], .int .i64 lev, .string f, .string t] w2 (TchE w2 ts seq next lev f t)) := touch_any ts seq next lev f t oa on oc w2 HM2.out
  rcases errV_cases ts seq next with hc | hc
  case inr =>
    have HC9 := hid hc
    replace HCT : Hid (Calls Try.prog 13 #[.agg #[.slice oa on oc, .int .i64 seq, .int .i64 next], .int .i64 lev, .string f, .string t] w2 fun e w' => ∃ a c, e = .returned (.tuple #[.slice a 0 c, .int .i64 9]) ∧ Hid (Below w2.heap.size w2 w')) := HCT.out.mono (fun e w' h => by
      obtain ⟨a, n, c, rfl, O, u⟩ := h
      have q : tchM ts seq next lev f t = [] := by unfold tchM; rw [if_neg (by rw [hc]; decide)]
      rw [q] at O
      have := ints_len (show IntsR w' (.slice a n c) [] from Rws.own O.out)
      rw [hc]
      subst this
      exact ⟨a, c, rfl, u⟩)
    clear hc
    go_wp2_with fail
    refine HCT.out.mono ?_
    rintro e w3 ⟨la, lc, rfl, u3⟩
    have U3 : Hid (Below NB w w3) := U2.out.trans (u3.out.mono (Nat.le_of_lt (blk_lt B2.out)))
    have B3 := hid (blk_up B2.out u3.out)
    have HV3 := hid (HV2.out.up u3.out)
    clear u3 U2 B2 HV2 HM2
    have x0 := blk_cell B3.out 0 _ rfl
    have x1 := blk_cell B3.out 1 _ rfl
    have x2 := blk_cell B3.out 2 _ rfl
    have HCK : Hid (Calls Try.prog 20 #[.agg #[.slice va ts.length vc, .int .i64 seq, .int .i64 next]] w3 fun e w' => e = .returned (.int .i64 (errV ts seq next)) ∧ Hid (Below w3.heap.size w3 w')) := refCheck_any ts seq next va ts.length vc w3 HV3.out
    rw [HC9.out] at HCK
    go_wp2_with fail
    refine (num_any _ _).mono ?_
    rintro e w4 ⟨rfl, rfl⟩
    go_wp2_with fail
    refine HCK.out.mono ?_
    rintro e w5 ⟨rfl, u5⟩
    go_wp2_with fail
    go_ret
    exact ⟨rfl, U3.out.trans (u5.out.mono (Nat.le_of_lt (blk_lt B3.out)))⟩
  have HC0 := hid hc
  replace HCT : Hid (Calls Try.prog 13 #[.agg #[.slice oa on oc, .int .i64 seq, .int .i64 next], .int .i64 lev, .string f, .string t] w2 fun e w' => ∃ a n c, e = .returned (.tuple #[.slice a n c, .int .i64 0]) ∧ Hid (IntsR w' (.slice a n c) ((touchM ts lev f t).map (·.id))) ∧ Hid (Below w2.heap.size w2 w')) := HCT.out.mono (fun e w' h => by
    obtain ⟨a, n, c, rfl, O, u⟩ := h
    have q : tchM ts seq next lev f t = (touchM ts lev f t).map (·.id) := by unfold tchM; rw [if_pos hc]
    rw [q] at O
    rw [hc]
    exact ⟨a, n, c, rfl, Rws.own O.out, u⟩)
  clear hc
  go_wp2_with fail
  refine HCT.out.mono ?_
  rintro e w3 ⟨la, ln, lc, rfl, HI, u3⟩
  have U3 : Hid (Below NB w w3) := U2.out.trans (u3.out.mono (Nat.le_of_lt (blk_lt B2.out)))
  have B3 := hid (blk_up B2.out u3.out)
  have HV3 := hid (HV2.out.up u3.out)
  clear u3 U2 B2 HV2 HM2
  have x0 := blk_cell B3.out 0 _ rfl
  have x1 := blk_cell B3.out 1 _ rfl
  have x2 := blk_cell B3.out 2 _ rfl
  have HLN : Hid (ln = cntT ts lev f t ts.length) := by
    have h1 := ints_len HI.out
    rw [List.length_map, touch_hitL] at h1
    unfold Hid cntT
    rw [List.take_length]
    exact h1
  have hL : ts.length ≤ 256 := chk_len HC0.out
  clear HCT
  go_wp2_with fail
  refine (num_any _ _).mono ?_
  rintro e w4 ⟨rfl, rfl⟩
  go_wp2_with fail
  clear x0 x1 x2
  go_loopw [11, 12] (fun a i wr => ∃ (k : Nat), k ≤ ts.length ∧ i = .int .i64 k ∧ a = .int .i64 (cntT ts lev f t k : Int) ∧ Hid (Below w4.heap.size w4 wr)) (fun _ i _ => ts.length - (intOf i).toNat)
  case atStart => exact ⟨0, Nat.zero_le _, rfl, rfl, Below.refl _ _⟩
  case round =>
    obtain ⟨k, hk, rfl, rfl, HB⟩ := hrel
    have BR := hid (blk_up B3.out HB.out)
    have x0 := blk_cell BR.out 0 _ rfl
    by_cases hlt : k < ts.length
    · have hlt' : (k : Int) < (ts.length : Int) := by omega
      obtain ⟨b, off, cap, x, e, hx, m0, m1, m2, m3, m4⟩ := (HV3.out.up HB.out).at k hlt
      simp only [Value.slice.injEq] at e
      obtain ⟨rfl, _, rfl⟩ := e
      have HSTEP := hid (cntT_step hx lev f t)
      have hbnd : (cntT ts lev f t k : Int) ≤ 256 := by have := cntT_le ts lev f t k; omega
      have HIN := hid (in_any ((touchM ts lev f t).map (·.id)) x.id (.slice la ln lc) (wr.alloc (meObj x)) (HI.out.up (up_al HB.out _)))
      rw [hitL_in (chk_all HC0.out) lev f t (List.mem_of_getElem? hx)] at HIN
      have HB2 : Hid (Below w4.heap.size w4 (wr.alloc (meObj x))) := up_al HB.out _
      have BX : Hid ((wr.alloc (meObj x)).heap[wr.heap.size]? = some (meObj x)) := blk_new _ _
      clear hx
      obtain ⟨w5, hw5⟩ : ∃ w5, w5 = wr.alloc (meObj x) := ⟨_, rfl⟩
      have HW5 : Hid (wr.alloc (.cells #[.int .i64 x.id, .int .i64 x.lvl, .int .i64 x.cnt, .string x.low, .string x.high] 52) = w5) := hw5.symm
      rw [← hw5] at HB2 BX HIN
      clear hw5
      generalize cntT ts lev f t k = CK at *
      go_upto_region 11 with fail
      rw [HW5.out]
      clear HW5 m0 m1 m2 m3 m4 x0
      generalize wr.heap.size = NX at *
      have m0 := blk_cell BX.out 0 _ rfl
      have m1 := blk_cell BX.out 1 _ rfl
      have m3 := blk_cell BX.out 3 _ rfl
      have m4 := blk_cell BX.out 4 _ rfl
      rcases hitL_cases lev f t x with ⟨h1, h9⟩ | ⟨h1, h2, h9⟩ | ⟨h1, h2, h3, h9⟩ | ⟨h1, h2, h3, h4, h9⟩ | ⟨h1, h2, h3, h4, h9⟩
      all_goals
        rw [h9] at HSTEP HIN
        clear h9
        go_wp2_with fail
        refine HIN.out.mono ?_
        rintro e w6 ⟨rfl, rfl⟩
        go_wp2_with fail
        exact ⟨⟨k + 1, by omega, by go_num, by rw [HSTEP.out]; go_num, HB2⟩, by simp [intOf]; omega⟩
    · have hlt' : ¬ (k : Int) < (ts.length : Int) := by omega
      obtain rfl : k = ts.length := by omega
      rw [← HLN.out]
      go_wp2_with fail
      go_ret
      exact ⟨rfl, U3.out.trans (HB.out.mono (Nat.le_of_lt (blk_lt B3.out)))⟩
end Go.Proofs.Ytjdibpmckeifhaa
