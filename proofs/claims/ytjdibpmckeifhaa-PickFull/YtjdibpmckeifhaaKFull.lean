/- PickFull, walked. -/
import Derived.Test.YtjdibpmckeifhaaJAlive
import Derived.Test.YtjdibpmckeifhaaLOf
import Derived.Test.YtjdibpmckeifhaaRChk
namespace Go.Proofs.Ytjdibpmckeifhaa
open Go.RowKit
set_option linter.unusedVariables false
set_option linter.unusedSimpArgs false

theorem at_snoc (ts : List Me) (k : Nat) (x : Me) (h : ts[k]? = some x) (lev : Int) : atM (ts.take (k + 1)) lev = atM (ts.take k) lev ++ (if x.lvl = lev then [x] else []) := by
  unfold atM
  rw [List.take_add_one, h, Option.toList_some, List.filter_append]
  congr 1
  by_cases q : x.lvl = lev
  · rw [if_pos q, List.filter_cons_of_pos (by simp [q])]; rfl
  · rw [if_neg q, List.filter_cons_of_neg (by simp [q])]; rfl
theorem at_yes {ts : List Me} {k : Nat} {x : Me} (h : ts[k]? = some x) {lev : Int} (hq : x.lvl = lev) : (atM (ts.take (k + 1)) lev).length = (atM (ts.take k) lev).length + 1 ∧ cntM (atM (ts.take (k + 1)) lev) = cntM (atM (ts.take k) lev) + x.cnt := by
  rw [at_snoc ts k x h lev, if_pos hq]
  constructor
  · simp
  · unfold cntM; simp
theorem at_no {ts : List Me} {k : Nat} {x : Me} (h : ts[k]? = some x) {lev : Int} (hq : x.lvl ≠ lev) : atM (ts.take (k + 1)) lev = atM (ts.take k) lev := by
  rw [at_snoc ts k x h lev, if_neg hq, List.append_nil]
theorem at_bnd {ts : List Me} {s n : Int} (he : errV ts s n = 0) (k : Nat) (lev : Int) : (atM (ts.take k) lev).length ≤ 256 ∧ 0 ≤ cntM (atM (ts.take k) lev) ∧ cntM (atM (ts.take k) lev) ≤ 1048576 := by
  have h1 := chk_len he
  have h2 := List.length_filter_le (fun m : Me => decide (m.lvl = lev)) (ts.take k)
  rw [List.length_take] at h2
  have h3 : (atM (ts.take k) lev).length ≤ 256 := by unfold atM; omega
  have h4 := cntM_bnd (atM (ts.take k) lev) (fun m hm => by
    have := chk_nums he (List.mem_of_mem_take (mem_at.1 hm).1)
    omega)
  refine ⟨h3, h4.1, ?_⟩
  omega
set_option maxHeartbeats 4000000 in
set_option maxRecDepth 100000 in
theorem full_walk (ts : List Me) (seq next : Int) (va : Option Addr) (vn vc : Nat) (w : World) (hv : MetsR w (.slice va vn vc) ts) (hl : ts.length ≤ 4000000000000) :
    Calls Try.prog 7 #[.agg #[.slice va vn vc, .int .i64 seq, .int .i64 next]] w fun e w' => e = .returned (.bool true) ∧ Below w.heap.size w w' := by
  obtain ⟨a', c', e', hc1, hc2⟩ := hv.len
  simp only [Value.slice.injEq] at e'
  obtain ⟨rfl, rfl, rfl⟩ := e'
  have HV : Hid (MetsR w (.slice va ts.length vc) ts) := hv
  have HL : Hid (ts.length ≤ 4000000000000) := hl
  clear hv hl hc1 hc2
  obtain ⟨w0, hw0⟩ : ∃ w0, w0 = w.alloc (.cells #[.slice va ts.length vc, .int .i64 seq, .int .i64 next] 24) := ⟨_, rfl⟩
  have HW0 : Hid (w.alloc (.cells #[.slice va ts.length vc, .int .i64 seq, .int .i64 next] 24) = w0) := hw0.symm
  have U0 : Hid (Below w.heap.size w w0) := by rw [hw0]; exact up_alloc _ _
  have B0 : Hid (w0.heap[w.heap.size]? = some (.cells #[.slice va ts.length vc, .int .i64 seq, .int .i64 next] 24)) := by rw [hw0]; exact blk_new _ _
  clear hw0
  have x0 := blk_cell B0.out 0 _ rfl
  have x1 := blk_cell B0.out 1 _ rfl
  have x2 := blk_cell B0.out 2 _ rfl
  have HAL := hid (alive_any w0)
  generalize hNB : w.heap.size = NB at *
  have HNB := hid hNB
  clear hNB
  go_enter Try.func7, Try.ntmps7
  go_upto_region 1 with fail
  rw [HW0.out, HNB.out]
  clear HW0
  go_wp2_with fail
  refine HAL.out.mono ?_
  rintro e w1 ⟨rfl, u1⟩
  have U1 : Hid (Below NB w w1) := U0.out.trans (u1.out.mono (Nat.le_of_lt (blk_lt B0.out)))
  have B1 := hid (blk_up B0.out u1.out)
  have HV1 : Hid (MetsR w1 (.slice va ts.length vc) ts) := HV.out.up (by rw [HNB.out]; exact U1.out)
  clear u1 HAL x0 x1 x2 U0 B0
  clear w0
  have x0 := blk_cell B1.out 0 _ rfl
  have x1 := blk_cell B1.out 1 _ rfl
  have x2 := blk_cell B1.out 2 _ rfl
  have HOF := hid (of_any ts seq next va ts.length vc w1 HV1.out HL.out)
  go_wp2_with fail
  refine HOF.out.mono ?_
  rintro e w2 ⟨oa, on, oc, rfl, HO2, u2⟩
  have U2 : Hid (Below NB w w2) := U1.out.trans (u2.out.mono (Nat.le_of_lt (blk_lt B1.out)))
  have B2 := hid (blk_up B1.out u2.out)
  have HV2 := hid (HV1.out.up u2.out)
  have HM2 : Hid (MetsR w2 (.slice oa on oc) ts) := HO2.out.read
  clear u2 HOF x0 x1 x2 U1 B1 HO2 HV1
  clear w1
  have HCF : Hid (Calls Try.prog 9 #[.agg #[.slice oa on oc, .int .i64 seq, .int .i64 next]] w2 (FullE w2 ts seq next)) := full_any ts seq next oa on oc w2 HM2.out
  rcases errV_cases ts seq next with hc | hc
  case inr =>
    replace HCF : Hid (Calls Try.prog 9 #[.agg #[.slice oa on oc, .int .i64 seq, .int .i64 next]] w2 fun e w' => e = .returned (.tuple #[.slice none 0 0, .int .i64 9]) ∧ Hid (Below w2.heap.size w2 w')) := HCF.out.mono (fun e w' h => by unfold FullE at h; rw [if_neg (by rw [hc]; decide)] at h; exact h)
    clear hc
    go_wp2_with fail
    refine HCF.out.mono ?_
    rintro e w3 ⟨rfl, u3⟩
    have U3 : Hid (Below NB w w3) := U2.out.trans (u3.out.mono (Nat.le_of_lt (blk_lt B2.out)))
    have B3 := hid (blk_up B2.out u3.out)
    have HV3 := hid (HV2.out.up u3.out)
    clear u3 U2 B2 HV2 HM2
    have x0 := blk_cell B3.out 0 _ rfl
    have x1 := blk_cell B3.out 1 _ rfl
    have x2 := blk_cell B3.out 2 _ rfl
    go_wp2_with fail
    refine (num_any _ _).mono ?_
    rintro e w4 ⟨rfl, rfl⟩
    go_wp2_with fail
    go_ret
    exact ⟨rfl, U3.out⟩
  have HC0 := hid hc
  replace HCF : Hid (Calls Try.prog 9 #[.agg #[.slice oa on oc, .int .i64 seq, .int .i64 next]] w2 fun e w' => ∃ a n c, e = .returned (.tuple #[.slice a n c, .int .i64 0]) ∧ Hid (OwnR w' w2.heap.size 3 1 (.slice a n c) ((fullM ts).map irow)) ∧ Hid (Below w2.heap.size w2 w')) := HCF.out.mono (fun e w' h => by unfold FullE at h; rw [if_pos hc] at h; exact h)
  clear hc
  go_wp2_with fail
  refine HCF.out.mono ?_
  rintro e w3 ⟨la, ln, lc, rfl, OF, u3⟩
  have U3 : Hid (Below NB w w3) := U2.out.trans (u3.out.mono (Nat.le_of_lt (blk_lt B2.out)))
  have B3 := hid (blk_up B2.out u3.out)
  have HV3 := hid (HV2.out.up u3.out)
  clear u3 U2 B2 HV2 HM2
  have x0 := blk_cell B3.out 0 _ rfl
  have x1 := blk_cell B3.out 1 _ rfl
  have x2 := blk_cell B3.out 2 _ rfl
  have HI : Hid (IntsR w3 (.slice la ln lc) (fullM ts)) := Rws.own OF.out
  have HLN : Hid ((ln : Int) ≤ 3) := by
    have h1 := ints_len HI.out
    have h2 := full_len ts
    unfold Hid
    omega
  have hL : ts.length ≤ 256 := chk_len HC0.out
  clear OF HCF
  go_wp2_with fail
  refine (num_any _ _).mono ?_
  rintro e w4 ⟨rfl, rfl⟩
  go_wp2_with fail
  go_loopw [5, 6, 7, 8] (fun a b c i wr => ∃ (k : Nat), k ≤ ts.length ∧ i = .int .i64 k ∧ a = .int .i64 ((atM (ts.take k) 0).length : Int) ∧ b = .int .i64 (cntM (atM (ts.take k) 1)) ∧ c = .int .i64 (cntM (atM (ts.take k) 2)) ∧ wr = w4) (fun _ _ _ i _ => ts.length - (intOf i).toNat)
  case atStart => exact ⟨0, Nat.zero_le _, rfl, rfl, rfl, rfl, rfl⟩
  case round =>
    obtain ⟨k, hk, rfl, rfl, rfl, rfl, rfl⟩ := hrel
    by_cases hlt : k < ts.length
    · have hlt' : (k : Int) < (ts.length : Int) := by omega
      obtain ⟨b, off, cap, x, e, hx, m0, m1, m2, m3, m4⟩ := HV3.out.at k hlt
      simp only [Value.slice.injEq] at e
      obtain ⟨rfl, _, rfl⟩ := e
      have b0 := at_bnd HC0.out k 0
      have b1 := at_bnd HC0.out k 1
      have b2 := at_bnd HC0.out k 2
      have bx := chk_nums HC0.out (List.mem_of_getElem? hx)
      have Y0 := fun q : x.lvl = 0 => at_yes hx q
      have Y1 := fun q : x.lvl = 1 => at_yes hx q
      have Y2 := fun q : x.lvl = 2 => at_yes hx q
      have Z0 := fun q : x.lvl ≠ 0 => at_no hx q
      have Z1 := fun q : x.lvl ≠ 1 => at_no hx q
      have Z2 := fun q : x.lvl ≠ 2 => at_no hx q
      replace Y0 := hid Y0
      replace Y1 := hid Y1
      replace Y2 := hid Y2
      replace Z0 := hid Z0
      replace Z1 := hid Z1
      replace Z2 := hid Z2
      clear hx
      by_cases q0 : x.lvl = 0
      · have E0 := hid (Y0.out q0).1
        have E1 := hid (Z1.out (by omega))
        have E2 := hid (Z2.out (by omega))
        have p0 : (x.lvl == 0) = true := by simp [q0]
        clear Y0 Y1 Y2 Z0 Z1 Z2 q0
        generalize (atM (ts.take k) 0).length = A at *
        have hA : (A : Int) ≤ 256 := by omega
        go_wp2_with fail
        exact ⟨⟨k + 1, by omega, by go_num, by rw [E0.out]; go_num, by rw [E1.out], by rw [E2.out], trivial⟩, by simp [intOf]; omega⟩
      by_cases q1 : x.lvl = 1
      · have E0 := hid (Z0.out q0)
        have E1 := hid (Y1.out q1).2
        have E2 := hid (Z2.out (by omega))
        have p0 : (x.lvl == 0) = false := by simp [q0]
        have p1 : (x.lvl == 1) = true := by simp [q1]
        clear Y0 Y1 Y2 Z0 Z1 Z2 q0 q1
        generalize cntM (atM (ts.take k) 1) = B at *
        have hB1 := b1.2.1
        have hB2 := b1.2.2
        have hx1 := bx.2.2.2.2.1
        have hx2 := bx.2.2.2.2.2
        go_wp2_with fail
        exact ⟨⟨k + 1, by omega, by go_num, by rw [E0.out], by rw [E1.out], by rw [E2.out], trivial⟩, by simp [intOf]; omega⟩
      by_cases q2 : x.lvl = 2
      · have E0 := hid (Z0.out q0)
        have E1 := hid (Z1.out q1)
        have E2 := hid (Y2.out q2).2
        have p0 : (x.lvl == 0) = false := by simp [q0]
        have p1 : (x.lvl == 1) = false := by simp [q1]
        have p2 : (x.lvl == 2) = true := by simp [q2]
        clear Y0 Y1 Y2 Z0 Z1 Z2 q0 q1 q2
        generalize cntM (atM (ts.take k) 2) = C at *
        have hB1 := b2.2.1
        have hB2 := b2.2.2
        have hx1 := bx.2.2.2.2.1
        have hx2 := bx.2.2.2.2.2
        go_wp2_with fail
        exact ⟨⟨k + 1, by omega, by go_num, by rw [E0.out], by rw [E1.out], by rw [E2.out], trivial⟩, by simp [intOf]; omega⟩
      · have E0 := hid (Z0.out q0)
        have E1 := hid (Z1.out q1)
        have E2 := hid (Z2.out q2)
        have p0 : (x.lvl == 0) = false := by simp [q0]
        have p1 : (x.lvl == 1) = false := by simp [q1]
        have p2 : (x.lvl == 2) = false := by simp [q2]
        clear Y0 Y1 Y2 Z0 Z1 Z2 q0 q1 q2
        go_wp2_with fail
        exact ⟨⟨k + 1, by omega, by go_num, by rw [E0.out], by rw [E1.out], by rw [E2.out], trivial⟩, by simp [intOf]; omega⟩
    · have hlt' : ¬ (k : Int) < (ts.length : Int) := by omega
      obtain rfl : k = ts.length := by omega
      rw [List.take_length]
      have I0 : Hid (Calls Try.prog 21 #[.slice la ln lc, .int .i64 0] wr fun e w' => e = .returned (.bool (decide (4 ≤ ((atM ts 0).length : Int)))) ∧ w' = wr) := (in_any (fullM ts) 0 _ wr HI.out).mono (fun e w' h => by
        have q : decide (0 ∈ fullM ts) = decide (4 ≤ ((atM ts 0).length : Int)) := decide_eq_decide.2 ((full_zero ts).trans (by omega))
        rw [q] at h; exact h)
      have I1 : Hid (Calls Try.prog 21 #[.slice la ln lc, .int .i64 1] wr fun e w' => e = .returned (.bool (decide (128 < cntM (atM ts 1)))) ∧ w' = wr) := (in_any (fullM ts) 1 _ wr HI.out).mono (fun e w' h => by
        have q : decide (1 ∈ fullM ts) = decide (128 < cntM (atM ts 1)) := decide_eq_decide.2 (full_one ts)
        rw [q] at h; exact h)
      have I2 : Hid (Calls Try.prog 21 #[.slice la ln lc, .int .i64 2] wr fun e w' => e = .returned (.bool (decide (512 < cntM (atM ts 2)))) ∧ w' = wr) := (in_any (fullM ts) 2 _ wr HI.out).mono (fun e w' h => by
        have q : decide (2 ∈ fullM ts) = decide (512 < cntM (atM ts 2)) := decide_eq_decide.2 (full_two ts)
        rw [q] at h; exact h)
      have I3 : Hid (Calls Try.prog 21 #[.slice la ln lc, .int .i64 3] wr fun e w' => e = .returned (.bool false) ∧ w' = wr) := (in_any (fullM ts) 3 _ wr HI.out).mono (fun e w' h => by
        have q : decide (3 ∈ fullM ts) = false := decide_eq_false (full_three ts)
        rw [q] at h; exact h)
      generalize (atM ts 0).length = A at *
      generalize cntM (atM ts 1) = B at *
      generalize cntM (atM ts 2) = C at *
      have hln := HLN.out
      go_wp2_with fail
      refine I0.out.mono ?_
      rintro e w5 ⟨rfl, rfl⟩
      go_wp2_with fail
      refine I1.out.mono ?_
      rintro e w6 ⟨rfl, rfl⟩
      go_wp2_with fail
      refine I2.out.mono ?_
      rintro e w7 ⟨rfl, rfl⟩
      go_wp2_with fail
      refine I3.out.mono ?_
      rintro e w8 ⟨rfl, rfl⟩
      go_wp2_with fail
      go_ret
      exact ⟨rfl, U3.out⟩
end Go.Proofs.Ytjdibpmckeifhaa
