/- The program's Merge of layer 13. -/
import Derived.Test.YtfnddbglopoghaaQTwi
import Derived.Test.YtfnddbglopoghaaQSort
namespace Go.Proofs.Ytfnddbglopoghaa
open Go.RowKit
set_option linter.unusedVariables false
set_option linter.unusedSimpArgs false
set_option maxRecDepth 100000

def firstP : List (List En) → Int
  | [] => 0
  | r :: rs => if chkP r = 0 then firstP rs else chkP r
theorem firstP_iff : ∀ runs : List (List En), firstP runs = 0 ↔ ∀ r ∈ runs, ordL r = 0
  | [] => by simp [firstP]
  | r :: rs => by
    unfold firstP
    by_cases h : chkP r = 0
    · rw [if_pos h, firstP_iff rs]
      simp [(chkP_iff r).1 h]
    · rw [if_neg h]
      have : ¬ ordL r = 0 := fun q => h ((chkP_iff r).2 q)
      simp [h, this]
theorem firstP_nine : ∀ runs : List (List En), 0 ≤ firstP runs ∧ firstP runs ≤ 81
  | [] => by simp [firstP]
  | r :: rs => by
    unfold firstP
    split
    · exact firstP_nine rs
    · exact chkP_nine r
theorem firstP_at {runs : List (List En)} {k : Nat} {r : List En} (hr : runs[k]? = some r) (h : chkP r ≠ 0) (hk : ∀ q ∈ runs.take k, chkP q = 0) : firstP runs = chkP r := by
  induction runs generalizing k with
  | nil => cases hr
  | cons x xs ih =>
    unfold firstP
    cases k with
    | zero =>
      simp at hr
      rw [hr, if_neg h]
    | succ k =>
      rw [if_pos (hk x (by simp))]
      exact ih (by simpa using hr) (fun q hq => hk q (by simp [hq]))
/-- What Merge tells. -/
def mergeP (runs : List (List En)) : Int := if 64 < runs.length ∨ 65536 < sumL runs then 3 else if firstP runs ≠ 0 then firstP runs else if mergeE runs ≠ 0 then 6 else 0
theorem mergeP_iff (runs : List (List En)) : mergeP runs = 0 ↔ mergeE runs = 0 := by
  unfold mergeP
  by_cases h1 : 64 < runs.length ∨ 65536 < sumL runs
  · rw [if_pos h1]
    refine ⟨(fun q => by cases q), fun q => ?_⟩
    have := (mergeE_iff runs).1 q
    unfold sumL at h1
    omega
  · rw [if_neg h1]
    by_cases h2 : firstP runs = 0
    · rw [if_neg (by simpa using h2)]
      by_cases h3 : mergeE runs = 0
      · rw [if_neg (by simpa using h3)]; simp [h3]
      · rw [if_pos h3]; simp [h3]
    · rw [if_pos h2]
      refine ⟨fun q => absurd q h2, fun q => ?_⟩
      exact absurd ((firstP_iff runs).2 ((mergeE_iff runs).1 q).2.2.1) h2
theorem mergeP_nine (runs : List (List En)) : 0 ≤ mergeP runs ∧ mergeP runs ≤ 81 := by
  have := firstP_nine runs
  unfold mergeP
  split
  · omega
  · split
    · exact this
    · split <;> omega
theorem merge_sorted {runs : List (List En)} (h : ∀ r ∈ runs, ordL r = 0) (hn : NoTw runs.flatten) {l : List En} (hp : l.Perm runs.flatten) (hs : SrtE l) : l = mergeL runs := by
  have hA : ∀ r ∈ runs, Asc r := fun r hr => ((ord_iff r).1 (h r hr)).2
  have hw : Wk l := hs.imp (fun q k => by rw [q] at k; cases k)
  refine asc_unique _ _ ((asc_iff hw).2 ((notw_perm hp).2 hn)) ((merge_asc hA).2 hn) (fun x => ?_)
  rw [hp.mem_iff, (merge_perm runs).mem_iff]
set_option maxHeartbeats 4000000 in
theorem merge_any (runs : List (List En)) (a : Option Addr) (n c : Nat) (w : World) (hv : RunsR w (.slice a n c) runs) (hb : ∀ r ∈ runs, r.length ≤ 2932031007402) :
    Calls Try.prog 20 #[.slice a n c] w fun e w' => ∃ a' n' c', e = .returned (.tuple #[.slice a' n' c', .int .i64 (mergeP runs)]) ∧ Hid (EntsR w' (.slice a' n' c') (mergeM runs)) ∧ Hid (Below w.heap.size w w') := by
  have HV := hid hv
  have HBB := hid hb
  obtain ⟨a1, c1, e1, hc, hm⟩ := hv.len
  simp only [Value.slice.injEq] at e1
  obtain ⟨rfl, hn, rfl⟩ := e1
  subst hn
  have h63 : runs.length ≤ 9223372036854775807 := by unfold maxLen at hm; omega
  have HBAD : Hid (mergeP runs ≠ 0 → mergeM runs = []) := fun h => by
    unfold mergeM
    rw [if_neg (fun q => h ((mergeP_iff runs).2 q))]
  clear hv hb
  by_cases h64 : 64 < runs.length
  · have h64' : (64 : Int) < (runs.length : Int) := by omega
    have HC0 : Hid ((3 : Int) = mergeP runs) := by unfold Hid mergeP; rw [if_pos (.inl h64)]
    have HSM : Hid (mergeM runs = []) := HBAD.out (by rw [← HC0.out]; decide)
    go_enter Try.func20, Try.ntmps20
    go_wp2_with fail
    go_ret2
    exact ⟨none, 0, 0, ret_two HC0.out, by unfold Hid; rw [HSM.out]; exact Rws.nil _ _, Below.refl _ _⟩
  have h64' : ¬ (64 : Int) < (runs.length : Int) := by omega
  have HVI := hid (versionsIn_any runs a runs.length c w HV.out (by omega) HBB.out)
  by_cases hsum : 65536 < sumL runs
  · have hsum' : (65536 : Int) < (sumL runs : Int) := by omega
    have HC0 : Hid ((3 : Int) = mergeP runs) := by unfold Hid mergeP; rw [if_pos (.inr hsum)]
    have HSM : Hid (mergeM runs = []) := HBAD.out (by rw [← HC0.out]; decide)
    go_enter Try.func20, Try.ntmps20
    go_wp2_with fail
    refine HVI.out.mono ?_
    rintro e w1 ⟨rfl, rfl⟩
    go_wp2_with fail
    go_ret2
    exact ⟨none, 0, 0, ret_two HC0.out, by unfold Hid; rw [HSM.out]; exact Rws.nil _ _, Below.refl _ _⟩
  have hsum' : ¬ (65536 : Int) < (sumL runs : Int) := by omega
  have HMP : Hid (mergeP runs = if firstP runs ≠ 0 then firstP runs else if mergeE runs ≠ 0 then 6 else 0) := by unfold Hid mergeP; rw [if_neg (by omega)]
  have HFL : Hid (runs.flatten.length ≤ 65536) := by
    unfold Hid
    rw [List.length_flatten]
    unfold sumL at hsum
    omega
  have HM3 : Hid (mergeE runs = 0 ↔ (∀ r ∈ runs, ordL r = 0) ∧ NoTw runs.flatten) := by
    unfold Hid
    rw [mergeE_iff]
    unfold sumL at hsum
    exact ⟨fun h => ⟨h.2.2.1, h.2.2.2⟩, fun h => ⟨by omega, by omega, h.1, h.2⟩⟩
  go_enter Try.func20, Try.ntmps20
  go_wp2_with fail
  refine HVI.out.mono ?_
  rintro e w1 ⟨rfl, rfl⟩
  clear HVI
  go_wp2_with fail
  go_loopw [20] (fun i wr => ∃ k : Nat, k ≤ runs.length ∧ i = .int .i64 k ∧ Hid (∀ r ∈ runs.take k, chkP r = 0) ∧ Hid (Below w1.heap.size w1 wr)) (fun i _ => runs.length - (intOf i).toNat)
  case atStart => exact ⟨0, Nat.zero_le _, rfl, (fun r hr => by simp at hr), Below.refl _ _⟩
  case round =>
    obtain ⟨k, hk, rfl, HK, HB⟩ := hrel
    by_cases hlt : k < runs.length
    · have hlt' : (k : Int) < (runs.length : Int) := by omega
      obtain ⟨b, off, cap, ra, rc, r, e, hr, z0, hE⟩ := (HV.out.up HB.out).at k hlt
      simp only [Value.slice.injEq] at e
      obtain ⟨rfl, _, rfl⟩ := e
      have HR := hid hr
      have HCK := hid (mcheck_any r (.slice ra r.length rc) wr hE)
      clear hr hE
      by_cases h0 : chkP r = 0
      · have HK2 : Hid (∀ q ∈ runs.take (k + 1), chkP q = 0) := by
          intro q hq
          rw [List.take_add_one, HR.out] at hq
          rcases List.mem_append.1 hq with t | t
          · exact HK.out q t
          · simp at t
            rw [t]
            exact h0
        rw [h0] at HCK
        clear h0
        go_wp2_with fail
        refine HCK.out.mono ?_
        rintro e w2 ⟨rfl, u2⟩
        go_wp2_with fail
        exact ⟨⟨k + 1, by omega, by go_num, HK2, up_trans HB.out u2.out⟩, by simp [intOf]; omega⟩
      · have HF : Hid (firstP runs = chkP r) := firstP_at HR.out h0 HK.out
        have HC0 : Hid (chkP r = mergeP runs) := by unfold Hid; rw [HMP.out, HF.out, if_pos h0]
        have HSM : Hid (mergeM runs = []) := HBAD.out (by rw [← HC0.out]; exact h0)
        have hb1 : (chkP r != 0) = true := by simp [h0]
        have hb2 : (chkP r = 0) = False := by simp [h0]
        clear h0
        go_wp2_with fail
        refine HCK.out.mono ?_
        rintro e w2 ⟨rfl, u2⟩
        go_wp2_with fail
        go_ret2
        exact ⟨none, 0, 0, ret_two HC0.out, by unfold Hid; rw [HSM.out]; exact Rws.nil _ _, up_trans HB.out u2.out⟩
    · have hlt' : ¬ (k : Int) < (runs.length : Int) := by omega
      obtain rfl : k = runs.length := by omega
      have HORD : Hid (∀ r ∈ runs, ordL r = 0) := by
        have := HK.out
        rw [List.take_length] at this
        exact fun r hr => (chkP_iff r).1 (this r hr)
      have HF0 : Hid (firstP runs = 0) := (firstP_iff runs).2 HORD.out
      have HMY : Hid (∀ x ∈ runs.flatten, mayE x = true) := fun x hx => by
        obtain ⟨r, hr, hxr⟩ := List.mem_flatten.1 hx
        exact ((ord_iff r).1 (HORD.out r hr)).1 x hxr
      have HTW := hid (anyTwice_any runs a runs.length c wr (HV.out.up HB.out) HMY.out HFL.out)
      clear HK
      go_wp2_with fail
      refine HTW.out.mono ?_
      intro e w2 hTW
      obtain ⟨q, rfl, hq, u2⟩ := hTW
      have HQ := hid hq
      have HB2 : Hid (Below w1.heap.size w1 w2) := up_trans HB.out u2
      clear HTW HB hq u2
      cases q with
      | true =>
        have hne : mergeE runs ≠ 0 := fun t => (HQ.out.1 rfl) (HM3.out.1 t).2
        have HC0 : Hid ((6 : Int) = mergeP runs) := by unfold Hid; rw [HMP.out, HF0.out]; simp [hne]
        have HSM : Hid (mergeM runs = []) := HBAD.out (by rw [← HC0.out]; decide)
        clear hne HQ
        go_wp2_with fail
        go_ret2
        exact ⟨none, 0, 0, ret_two HC0.out, by unfold Hid; rw [HSM.out]; exact Rws.nil _ _, HB2.out⟩
      | false =>
        have HNT : Hid (NoTw runs.flatten) := by
          unfold Hid
          exact Classical.byContradiction (fun t => by have := HQ.out.2 t; cases this)
        have hE0 : mergeE runs = 0 := HM3.out.2 ⟨HORD.out, HNT.out⟩
        have HC0 : Hid ((0 : Int) = mergeP runs) := ((mergeP_iff runs).2 hE0).symm
        have HSM : Hid (mergeM runs = mergeL runs) := by unfold Hid mergeM; rw [if_pos hE0]
        clear HQ hE0
        go_wp2_with fail
        go_loopw [34, 7] (fun i s wr => ∃ (k : Nat) (sa : Option Addr) (sn sc : Nat), k ≤ runs.length ∧ i = .int .i64 k ∧ s = .slice sa sn sc ∧ Hid (OwnE wr w1.heap.size (.slice sa sn sc) (runs.take k).flatten) ∧ Hid (Below w1.heap.size w1 wr)) (fun i _ _ => runs.length - (intOf i).toNat)
        case atStart => exact ⟨0, none, 0, 0, Nat.zero_le _, rfl, rfl, OwnR.nil _ _ _ _, HB2⟩
        case round =>
          obtain ⟨k, sa, sn, sc, hk, rfl, rfl, HO, HB⟩ := hrel
          clear HB2
          by_cases hlt : k < runs.length
          · have hlt' : (k : Int) < (runs.length : Int) := by omega
            obtain ⟨b, off, cap, ra, rc, r, e, hr, z0, hE⟩ := (HV.out.up HB.out).at k hlt
            simp only [Value.slice.injEq] at e
            obtain ⟨rfl, _, rfl⟩ := e
            have HFS : Hid ((runs.take (k + 1)).flatten = (runs.take k).flatten ++ r) := by
              unfold Hid
              rw [List.take_add_one, hr, List.flatten_append]
              simp
            have HRE := hid hE
            have hln : (runs.take k).flatten.length + r.length ≤ 65536 := by
              have h1 := congrArg List.length HFS.out
              rw [List.length_append] at h1
              have h2 := flat_take_len runs (k + 1)
              have h3 := HFL.out
              omega
            generalize (runs.take k).flatten = G at *
            have hb1 : (((G.map enRow).length + (r.map enRow).length) + ((G.map enRow).length + (r.map enRow).length) / 4 + 192) * 48 ≤ 281474976710656 := by
              rw [List.length_map, List.length_map]
              omega
            have hb2 : (G.map enRow).length + (r.map enRow).length ≤ maxLen := by
              rw [List.length_map, List.length_map]
              unfold maxLen
              omega
            have HC := hid (And.intro hb1 (And.intro hb2 HB.out.size))
            clear hb1 hb2 hr hE hln
            go_wp2_with (at_builtin; refine wpList_append_rows wr rfl _ _ 22 47 _ 4 48 rfl Try.underlying22 Try.infoE rfl (by decide) w1.heap.size (.slice sa sn sc) (G.map enRow) rfl HO.out (.slice ra r.length rc) (r.map enRow) rfl HRE.out (rows_oneE r) HC.out.1 HC.out.2.1 HC.out.2.2 ?_)
            intro v' w' hown hgr
            have HO2 : Hid (OwnE w' w1.heap.size v' (runs.take (k + 1)).flatten) := by
              unfold Hid OwnE
              rw [HFS.out, List.map_append]
              exact hown
            obtain ⟨a3, c3, ev⟩ := HO2.out.form
            subst ev
            have HB3 : Hid (Below w1.heap.size w1 w') := HB.out.grown hgr HB.out.size (fun q hq => (HO.out.2.lt q hq).1)
            clear hown hgr
            go_wp2_with fail
            exact ⟨⟨k + 1, a3, _, c3, by omega, by go_num, rfl, HO2, HB3⟩, by simp [intOf]; omega⟩
          · have hlt' : ¬ (k : Int) < (runs.length : Int) := by omega
            obtain rfl : k = runs.length := by omega
            rw [List.take_length] at HO
            have HSRT := hid (sort_any runs.flatten sa sn sc w1.heap.size wr HO.out HB.out.size (by have := HFL.out; omega))
            go_wp2_with fail
            refine HSRT.out.mono ?_
            rintro e w4 ⟨rfl, HX, u4⟩
            have HFIN : Hid (EntsR w4 (.slice sa sn sc) (mergeM runs)) := by
              obtain ⟨l', hp, hs, ho⟩ := HX.out
              unfold Hid
              rw [HSM.out, ← merge_sorted HORD.out HNT.out hp hs]
              exact Rws.own ho
            have HB4 : Hid (Below w1.heap.size w1 w4) := HB.out.trans u4.out
            clear HX u4 HSRT
            go_wp2_with fail
            go_ret2
            exact ⟨sa, sn, sc, ret_two HC0.out, HFIN, HB4⟩
end Go.Proofs.Ytfnddbglopoghaa
