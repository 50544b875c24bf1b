/- MergeOrder's walk. -/
import Derived.Test.YtfnddbglopoghaaKTwi
import Derived.Test.YtfnddbglopoghaaQMrg
namespace Go.Proofs.Ytfnddbglopoghaa
open Go.RowKit
set_option linter.unusedVariables false
set_option linter.unusedSimpArgs false
set_option maxRecDepth 100000

theorem Try.info22 : (Try.prog.info? 22).map (fun i => (i.zero, i.size, i.bytes)) = some (some (.slice none 0 0), 1, 24) := by kernel_rfl
theorem runs_two {w : World} {a1 a2 : Option Addr} {n1 c1 n2 c2 : Nat} {l1 l2 : List En} (h1 : EntsR w (.slice a1 n1 c1) l1) (h2 : EntsR w (.slice a2 n2 c2) l2) :
    RunsR (w.alloc (.cells #[.slice a1 n1 c1, .slice a2 n2 c2] 22)) (.slice (some ⟨w.heap.size, 0, none⟩) 2 2) [l1, l2] := by
  have h3 := Rws.made (sz := 1) w 22 [[.slice a1 n1 c1], [.slice a2 n2 c2]] (by simp) (by simp [maxLen])
  refine ⟨[.slice a1 n1 c1, .slice a2 n2 c2], h3, rfl, fun i u r hu hr => ?_⟩
  match i, hu, hr with
  | 0, hu, hr => simp at hu hr; subst hu hr; exact h1.up (up_alloc _ _)
  | 1, hu, hr => simp at hu hr; subst hu hr; exact h2.up (up_alloc _ _)
  | k + 2, hu, hr => simp at hu
theorem rev_at {A : Type} {us : List A} {k j : Nat} (h : j + 1 + k = us.length) : us.reverse[k]? = us[j]? := by
  rw [List.getElem?_reverse (by omega)]
  congr 1
  omega
theorem runs_rev {w w' : World} {base : Nat} {v : Value} {us : List Value} {runs : List (List En)} (ho : OwnR w' base 22 1 v ((us.reverse.take us.length).map srow)) (hl : us.length = runs.length)
    (he : ∀ (i : Nat) (u : Value) (r : List En), us[i]? = some u → runs[i]? = some r → EntsR w u r) (hb : Below w.heap.size w w') : RunsR w' v runs.reverse := by
  refine ⟨us.reverse, ?_, by simp [hl], fun i u r hu hr => ?_⟩
  · have := Rws.own ho
    rw [List.take_of_length_le (by simp)] at this
    exact this
  · have hi : i < us.reverse.length := (List.getElem?_eq_some_iff.1 hu).1
    rw [List.length_reverse] at hi
    rw [List.getElem?_reverse hi] at hu
    rw [List.getElem?_reverse (by omega)] at hr
    rw [hl] at hu
    exact (he _ u r hu hr).up hb
theorem mergeM_of {runs : List (List En)} (h : mergeE runs = 0) : mergeM runs = mergeL runs := by unfold mergeM; rw [if_pos h]
set_option maxHeartbeats 4000000 in
theorem order_walk (HAL : AliveC) (runs : List (List En)) (a : Option Addr) (n c : Nat) (w : World) (hv : RunsR w (.slice a n c) runs) (hl : runs.length ≤ 5864062014805) (hb : ∀ r ∈ runs, r.length ≤ 2932031007402) :
    Calls Try.prog 6 #[.slice a n c] w fun e w' => e = .returned (.bool true) ∧ Below w.heap.size w w' := by
  have HV := hid hv
  have HA := hid HAL
  have HN := hid mnum_any
  have HB := hid hb
  clear hv HAL hb
  go_enter Try.func6, Try.ntmps6
  go_wp2_with fail
  refine (HA.out _).mono ?_
  rintro e w1 ⟨rfl, u1⟩
  have HT := hid (merge_any runs a n c w1 (HV.out.up u1.out) HB.out)
  go_wp2_with fail
  refine HT.out.mono ?_
  rintro e w2 ⟨a2, n2, c2, rfl, E2, u2⟩
  have U2 : Hid (Below w.heap.size w w2) := up_trans u1.out u2.out
  have V2 : Hid (RunsR w2 (.slice a n c) runs) := HV.out.up U2.out
  clear HT u1 u2 HV
  obtain ⟨us, hR, hul, hE⟩ := V2.out
  have hn : n = us.length := by
    obtain ⟨a9, c9, e9, _⟩ := Rws.len hR
    simp only [Value.slice.injEq, List.length_map] at e9
    exact e9.2.1
  subst hn
  have HR := hid hR
  have HE := hid hE
  have HUL := hid hul
  have hl2 : us.length ≤ 5864062014805 := by omega
  clear hR hE hul hl
  go_wp2_with fail
  go_loopw [5, 6, 7] (fun vb vm vi wr => ∃ (k : Nat) (m : Int) (ba : Option Addr) (bc : Nat), k ≤ us.length ∧ vb = .slice ba k bc ∧ vm = .int .i64 m ∧ vi = .int .i64 k ∧ Hid (OwnR wr w2.heap.size 22 1 (.slice ba k bc) ((us.reverse.take k).map srow)) ∧ Hid (Below w2.heap.size w2 wr) ∧ Hid (k ≤ 64 → m = (sumL (runs.take k) : Int))) (fun _ _ vi _ => us.length - (intOf vi).toNat)
  case atStart => exact ⟨0, 0, none, 0, Nat.zero_le _, rfl, rfl, rfl, OwnR.nil _ _ _ _, Below.refl _ _, fun _ => by simp [sumL]⟩
  case round =>
    obtain ⟨k, m, ba, bc, hk, rfl, rfl, rfl, HO, hU, HM⟩ := hrel
    by_cases hlt : k < us.length
    · have hlt' : (k : Int) < (us.length : Int) := by omega
      have HVR : Hid (RunsR wr (.slice a us.length c) runs) := V2.out.up hU.out
      obtain ⟨j, hj⟩ : ∃ j, j + 1 + k = us.length := ⟨us.length - 1 - k, by omega⟩
      have hjl : j < runs.length := by have := HUL.out; omega
      have hkl : k < runs.length := by have := HUL.out; omega
      obtain ⟨b, off, cap, ak, ck, rk, e, hrk, ck0, _⟩ := HVR.out.at k hkl
      obtain ⟨b', off', cap', aj, cj, rj, e', hrj, cj0, hEj⟩ := HVR.out.at j hjl
      simp only [Value.slice.injEq, Option.some.injEq, Addr.mk.injEq] at e e'
      obtain ⟨rfl, hz1, rfl⟩ := e
      simp only [Option.some.injEq, Addr.mk.injEq] at e'
      obtain ⟨⟨rfl, rfl, hz2⟩, hz3, rfl⟩ := e'
      clear hz1 hz2 hz3
      have huj : us[j]? = some (.slice aj rj.length cj) := by
        obtain ⟨b2, off2, cap2, e2, _, _, hc2⟩ := Rws.at HR.out j (by rw [List.length_map]; omega)
        simp only [Value.slice.injEq, Option.some.injEq, Addr.mk.injEq] at e2
        obtain ⟨⟨rfl, rfl, _⟩, _, rfl⟩ := e2
        have hu : us[j]? = some us[j] := List.getElem?_eq_getElem (by omega)
        have h0 := hc2 0 us[j] (by
          rw [List.getD_eq_getElem?_getD, List.getElem?_map, hu]
          rfl)
        simp only [Nat.mul_one, Nat.add_zero] at h0
        have h1 := (hU.out.cell (p := ⟨b, off + j, none⟩) (World.block_lt_of_cell? w2 ⟨b, off + j, none⟩ h0)).trans h0
        rw [cj0] at h1
        rw [hu]
        exact h1.symm
      have HTK : Hid ((us.reverse.take (k + 1)).map srow = (us.reverse.take k).map srow ++ [[.slice aj rj.length cj]]) := by
        unfold Hid
        rw [List.take_add_one, rev_at hj, huj]
        simp [srow]
      have HCL : Hid (((us.reverse.take k).map srow).length = k) := by unfold Hid; rw [List.length_map, List.length_take, List.length_reverse]; omega
      obtain ⟨C, hC⟩ : ∃ C, C = (us.reverse.take k).map srow := ⟨_, rfl⟩
      rw [← hC] at HTK HCL HO
      have HB1 : Hid (((C.length + 1) + (C.length + 1) / 4 + 192) * 24 ≤ 281474976710656) := by unfold Hid; rw [HCL.out]; omega
      have HB2 : Hid (C.length + 1 ≤ maxLen) := by unfold Hid maxLen; rw [HCL.out]; omega
      have HSZ : Hid (w2.heap.size ≤ wr.heap.size) := hU.out.size
      have hrl : rk.length ≤ 2932031007402 := HB.out rk (List.mem_of_getElem? hrk)
      obtain ⟨m2, hm2⟩ : ∃ m2, IntKind.i64.wrap (m + (rk.length : Int)) = m2 := ⟨_, rfl⟩
      have HM2 : Hid (k + 1 ≤ 64 → m2 = (sumL (runs.take (k + 1)) : Int)) := by
        intro h64
        rw [sumL_take runs k rk hrk, ← hm2, HM.out (by omega)]
        have := sumL_le runs k 2932031007402 HB.out
        simp [IntKind.wrap, IntKind.bits, IntKind.signed]
        omega
      have e1 : IntKind.i64.wrap ((us.length : Int) - 1) = (us.length : Int) - 1 := by simp [IntKind.wrap, IntKind.bits, IntKind.signed]; omega
      have e2 : (us.length : Int) - 1 - (k : Int) = (j : Int) := by omega
      have e3 : IntKind.i64.wrap (j : Int) = (j : Int) := by simp [IntKind.wrap, IntKind.bits, IntKind.signed]; omega
      have hjl' : (j : Int) < (us.length : Int) := by omega
      obtain ⟨b2, off2, cap2, ak2, ck2, rk2, e9, hrk2, ck20, _⟩ := V2.out.at k hkl
      simp only [Value.slice.injEq, Option.some.injEq, Addr.mk.injEq] at e9
      obtain ⟨⟨rfl, rfl, hz2⟩, hz3, rfl⟩ := e9
      rw [hrk] at hrk2
      cases hrk2
      have ck1 : Hid (∀ wz, Below w2.heap.size w2 wz → wz.cell? ⟨b, off + k, none⟩ = some (.slice ak2 rk.length ck2)) := fun wz hz => (hz.cell (p := ⟨b, off + k, none⟩) (World.block_lt_of_cell? w2 ⟨b, off + k, none⟩ ck20)).trans ck20
      clear hEj huj hj hrk hrj hC HM hrl hjl hkl ck0 ck20 hz2 hz3
      go_wp2_with (at_builtin; refine wpList_append_row wr rfl _ _ 42 22 _ 1 24 rfl Try.underlying42 Try.info22 rfl (by decide) w2.heap.size (.slice ba k bc) C rfl HO.out [.slice aj rj.length cj] _ _ rfl rfl rfl rfl (by simp; rfl) HB1.out HB2.out HSZ.out ?_)
      intro v4 w4 O4 B4
      have U4 : Hid (Below w2.heap.size w2 w4) := hU.out.trans B4
      have O4' : Hid (OwnR w4 w2.heap.size 22 1 v4 ((us.reverse.take (k + 1)).map srow)) := by unfold Hid; rw [HTK.out]; exact O4
      obtain ⟨a4, c4, e4, _⟩ := (Rws.own O4'.out).len
      rw [HTK.out, List.length_append, HCL.out] at e4
      simp only [List.length_singleton] at e4
      subst e4
      have x1 := ck1.out w4 U4.out
      clear O4 B4 ck1 HB1 HB2 HO HTK HCL hU HSZ cj0
      go_wp2_with fail
      exact ⟨⟨k + 1, m2, a4, c4, by omega, rfl, rfl, by go_num, O4', U4, HM2⟩, by simp [intOf]; omega⟩
    · have hlt' : ¬ (k : Int) < (us.length : Int) := by omega
      obtain rfl : k = us.length := by omega
      have HBK : Hid (RunsR wr (.slice ba us.length bc) runs.reverse) := runs_rev HO.out HUL.out HE.out hU.out
      have HT := hid (merge_any runs.reverse ba us.length bc wr HBK.out (fun r hr => HB.out r (List.mem_reverse.1 hr)))
      have HVR : Hid (RunsR wr (.slice a us.length c) runs) := V2.out.up hU.out
      have HER : Hid (EntsR wr (.slice a2 n2 c2) (mergeM runs)) := E2.out.up hU.out
      have HUR : Hid (Below w.heap.size w wr) := up_trans U2.out hU.out
      clear HO HBK V2 E2 U2 hU hlt HR HE
      go_wp2_with fail
      refine HT.out.mono ?_
      rintro e w5 ⟨a5, n5, c5, rfl, E5, u5⟩
      have HV5 : Hid (RunsR w5 (.slice a us.length c) runs) := HVR.out.up u5.out
      have HE5 : Hid (EntsR w5 (.slice a2 n2 c2) (mergeM runs)) := HER.out.up u5.out
      have HU5 : Hid (Below w.heap.size w w5) := up_trans HUR.out u5.out
      clear HT HVR HER HUR u5
      have HBK := hid (merge_back runs)
      by_cases h0 : mergeP runs = 0
      · have hE0 : Hid (mergeE runs = 0) := (mergeP_iff runs).1 h0
        have hP2 : mergeP runs.reverse = 0 := (mergeP_iff _).2 (HBK.out.1.1 hE0.out)
        have HM1 : Hid (mergeM runs = mergeL runs) := mergeM_of hE0.out
        have HM2' : Hid (mergeM runs.reverse = mergeL runs) := (mergeM_of (HBK.out.1.1 hE0.out)).trans (HBK.out.2 hE0.out)
        have HO1 : Hid (ordL (mergeL runs) = 0 ∧ (mergeL runs).length = (runs.map List.length).sum) := merge_ord hE0.out
        have H64 : runs.length ≤ 64 := ((mergeE_iff runs).1 hE0.out).1
        have HST : Hid (∀ (k : Nat) (r : List En), runs[k]? = some r → mergeP [mergeL (runs.take k), r] = 0 ∧ mergeM [mergeL (runs.take k), r] = mergeL (runs.take (k + 1))) := fun k r hr => by
          have h := merge_step hE0.out k r hr
          exact ⟨(mergeP_iff _).2 h.1, (mergeM_of h.1).trans h.2⟩
        have HLT : Hid (∀ k, (mergeL (runs.take k)).length ≤ 65536) := fun k => by
          have h1 := (mergeE_iff runs).1 hE0.out
          rw [(merge_perm _).length_eq, List.length_flatten]
          have : (runs.take k).flatten.Sublist runs.flatten := by
            conv => rhs; rw [← List.take_append_drop k runs, List.flatten_append]
            exact List.sublist_append_left _ _
          have a := this.length_le
          rw [List.length_flatten, List.length_flatten] at a
          omega
        have HMS : m = ((mergeL runs).length : Int) := by
          have := HM.out (by have := HUL.out; omega)
          rw [this, HO1.out.2]
          rw [HUL.out, List.take_length]
          rfl
        rw [HM1.out] at HE5
        rw [HM2'.out] at E5
        have hn2 : n2 = (mergeL runs).length := by
          obtain ⟨a9, c9, e9, _⟩ := HE5.out.len
          simp only [Value.slice.injEq] at e9
          exact e9.2.1
        have hn5 : n5 = (mergeL runs).length := by
          obtain ⟨a9, c9, e9, _⟩ := E5.out.len
          simp only [Value.slice.injEq] at e9
          exact e9.2.1
        have HCK : Hid (chkP (mergeL runs) = 0) := (chkP_iff _).2 HO1.out.1
        rw [h0, hP2]
        have HFT : Hid (mergeL (runs.take us.length) = mergeL runs) := by unfold Hid; rw [HUL.out, List.take_length]
        subst hn2 hn5 HMS
        clear h0 hP2 HM1 HM2' HO1 HBK HM hE0
        have hlr : (us.length : Int) ≤ 64 := by have := HUL.out; omega
        clear H64
        go_wp2_with fail
        refine (HN.out 0 _).mono ?_
        rintro e w6 ⟨rfl, rfl⟩
        go_wp2_with fail
        go_loopw [10, 11] (fun vc vi wr => ∃ (k cn : Nat) (ca : Option Addr) (cc : Nat), k ≤ us.length ∧ vc = .slice ca cn cc ∧ vi = .int .i64 k ∧ Hid (EntsR wr (.slice ca cn cc) (mergeL (runs.take k))) ∧ Hid (Below w6.heap.size w6 wr)) (fun _ vi _ => us.length - (intOf vi).toNat)
        case atStart => exact ⟨0, 0, none, 0, Nat.zero_le _, rfl, rfl, Rws.nil _ _, Below.refl _ _⟩
        case round =>
          obtain ⟨k, cn, ca, cc, hk2, rfl, rfl, HC, hU⟩ := hrel
          by_cases hlt : k < us.length
          · have hlt' : (k : Int) < (us.length : Int) := by omega
            have HVQ : Hid (RunsR wr (.slice a us.length c) runs) := HV5.out.up hU.out
            obtain ⟨b, off, cap, ak, ck, rk, e, hrk, ck0, hEk⟩ := HVQ.out.at k (by have := HUL.out; omega)
            simp only [Value.slice.injEq] at e
            obtain ⟨rfl, hz1, rfl⟩ := e
            have HSK := hid (HST.out k rk hrk)
            have HMG := hid (merge_any [mergeL (runs.take k), rk] _ 2 2 _ (runs_two HC.out hEk) (fun r hr => by
              simp only [List.mem_cons, List.mem_nil_iff, or_false] at hr
              rcases hr with rfl | rfl
              · exact Nat.le_trans (HLT.out k) (by decide)
              · exact HB.out _ (List.mem_of_getElem? hrk)))
            rw [HSK.out.1, HSK.out.2] at HMG
            clear hEk hz1 hrk HVQ HSK
            go_wp2_with fail
            refine HMG.out.mono ?_
            rintro e w7 ⟨a7, n7, c7, rfl, E7, u7⟩
            have U7 : Hid (Below w6.heap.size w6 w7) := up_trans hU.out (up_trans (up_alloc _ _) u7.out)
            clear HMG u7
            go_wp2_with fail
            refine (HN.out 0 _).mono ?_
            rintro e w8 ⟨rfl, rfl⟩
            go_wp2_with fail
            exact ⟨⟨k + 1, n7, a7, c7, by omega, rfl, by go_num, E7, U7⟩, by simp [intOf]; omega⟩
          · have hlt' : ¬ (k : Int) < (us.length : Int) := by omega
            obtain rfl : k = us.length := by omega
            rw [HFT.out] at HC
            have hcn : cn = (mergeL runs).length := by
              obtain ⟨a9, c9, e9, _⟩ := HC.out.len
              simp only [Value.slice.injEq] at e9
              exact e9.2.1
            subst hcn
            have HA9 : Hid (EntsR wr (.slice a2 (mergeL runs).length c2) (mergeL runs)) := HE5.out.up hU.out
            have HS1 := hid (sameEnts_self (mergeL runs) (.slice a2 (mergeL runs).length c2) (.slice a5 (mergeL runs).length c5) wr HA9.out (E5.out.up hU.out))
            have HS2 : Hid (∀ d, Calls Try.prog 16 #[.slice a2 (mergeL runs).length c2, .slice ca (mergeL runs).length cc] (wr.drewN d) fun e w' => e = .returned (.bool true) ∧ ∃ d', w' = (wr.drewN d).drewN d') := fun d => sameEnts_self (mergeL runs) _ _ _ (HA9.out.up (up_drewN _ _)) (HC.out.up (up_drewN _ _))
            have HS3 : Hid (∀ d, Calls Try.prog 21 #[.slice a2 (mergeL runs).length c2] (wr.drewN d) fun e w' => e = .returned (.int .i64 0) ∧ Hid (Below (wr.drewN d).heap.size (wr.drewN d) w')) := fun d => by
              have h := mcheck_any (mergeL runs) (.slice a2 (mergeL runs).length c2) (wr.drewN d) (HA9.out.up (up_drewN _ _))
              rw [HCK.out] at h
              exact h
            have HUF : Hid (∀ d wz, Below (wr.drewN d).heap.size (wr.drewN d) wz → Below w.heap.size w wz) := fun d wz h => up_trans (up_trans HU5.out hU.out) (up_trans (up_drewN _ _) h)
            generalize (mergeL runs).length = L at *
            clear HC HA9 E5 HE5 HV5 HU5 hU
            go_wp2_with fail
            refine (HN.out 0 _).mono ?_
            rintro e wy ⟨rfl, rfl⟩
            go_wp2_with fail
            refine HS1.out.mono ?_
            rintro e wx ⟨rfl, d, rfl⟩
            go_wp2_with fail
            refine (HS2.out d).mono ?_
            rintro e wx ⟨rfl, d', rfl⟩
            go_wp2_with fail
            refine (HS3.out (d + d')).mono ?_
            rintro e wz ⟨rfl, u9⟩
            go_wp2_with fail
            refine (HN.out 0 _).mono ?_
            rintro e wz2 ⟨rfl, rfl⟩
            go_wp2_with fail
            go_ret
            exact ⟨rfl, HUF.out (d + d') _ u9.out⟩
      · have hP2 : ¬ mergeP runs.reverse = 0 := fun h => h0 ((mergeP_iff _).2 (HBK.out.1.2 ((mergeP_iff _).1 h)))
        have HX1 : mergeM runs = [] := by unfold mergeM; rw [if_neg (fun q => h0 ((mergeP_iff runs).2 q))]
        have HX2 : mergeM runs.reverse = [] := by unfold mergeM; rw [if_neg (fun q => hP2 ((mergeP_iff runs.reverse).2 q))]
        rw [HX1] at HE5
        rw [HX2] at E5
        obtain ⟨a9, c9, e9, _⟩ := HE5.out.len
        simp only [Value.slice.injEq] at e9
        obtain ⟨rfl, hn2, rfl⟩ := e9
        obtain ⟨a8, c8, e8, _⟩ := E5.out.len
        simp only [Value.slice.injEq] at e8
        obtain ⟨rfl, hn5, rfl⟩ := e8
        simp only [List.length_nil] at hn2 hn5
        subst hn2 hn5
        have hb1 : (mergeP runs != 0) = true := by simp [h0]
        have hb2 : (mergeP runs = 0) = False := by simp [h0]
        have hb3 : (mergeP runs.reverse != 0) = true := by simp [hP2]
        have hb4 : (mergeP runs.reverse = 0) = False := by simp [hP2]
        clear h0 hP2 HX1 HX2 HBK
        generalize mergeP runs = p1 at *
        generalize mergeP runs.reverse = p2 at *
        go_wp2_with fail
        refine (HN.out _ _).mono ?_
        rintro e wx ⟨rfl, rfl⟩
        go_wp2_with fail
        refine (HN.out _ _).mono ?_
        rintro e wx ⟨rfl, rfl⟩
        go_wp2_with fail
        go_ret
        exact ⟨rfl, HU5.out⟩
end Go.Proofs.Ytfnddbglopoghaa
