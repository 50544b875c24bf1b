/- Texts of layers 1 to 13, in this order. -/
import Derived.Test.YthiegmhplnbdlaaGreatG38
import Derived.Test.YthiegmhplnbdlaaGreatQSort
import Derived.Test.YthiegmhplnbdlaaGreatG22
import Derived.Test.YthiegmhplnbdlaaGreatG09
import Derived.Test.YthiegmhplnbdlaaGreatG12
import Derived.Defers
import Derived.Recover

namespace Go.Proofs.YthiegmhplnbdlaaGreat
open Go.RowKit
set_option linter.unusedVariables false
set_option linter.unusedSimpArgs false
set_option maxRecDepth 100000
def firstPQ : List (List En) → Int
  | [] => 0
  | r :: rs => if chkP r = 0 then firstPQ rs else chkP r
theorem firstP_iff : ∀ runs : List (List En), firstPQ runs = 0 ↔ ∀ r ∈ runs, ordL r = 0
  | [] => by simp [firstPQ]
  | r :: rs => by
    unfold firstPQ
    by_cases h : chkP r = 0
    · rw [if_pos h, firstP_iff rs]
      simp [(chkP_iff r).1 h]
    · rw [if_neg h]
      have : ¬ ordL r = 0 := fun q => h ((chkP_iff r).2 q)
      simp [h, this]
theorem firstP_at {runs : List (List En)} {k : Nat} {r : List En} (hr : runs[k]? = some r) (h : chkP r ≠ 0) (hk : ∀ q ∈ runs.take k, chkP q = 0) : firstPQ runs = chkP r := by
  induction runs generalizing k with
  | nil => cases hr
  | cons x xs ih =>
    unfold firstPQ
    cases k with
    | zero =>
      simp at hr
      rw [hr, if_neg h]
    | succ k =>
      rw [if_pos (hk x (by simp))]
      exact ih (by simpa using hr) (fun q hq => hk q (by simp [hq]))
def mergeP (runs : List (List En)) : Int := if 64 < runs.length ∨ 65536 < sumL runs then 3 else if firstPQ runs ≠ 0 then firstPQ runs else if mergeE runs ≠ 0 then 6 else 0
theorem mergeP_iff (runs : List (List En)) : mergeP runs = 0 ↔ mergeE runs = 0 := by
  unfold mergeP
  by_cases h1 : 64 < runs.length ∨ 65536 < sumL runs
  · rw [if_pos h1]
    refine ⟨(fun q => by cases q), fun q => ?_⟩
    have := (mergeE_iff runs).1 q
    unfold sumL at h1
    omega
  · rw [if_neg h1]
    by_cases h2 : firstPQ runs = 0
    · rw [if_neg (by simpa using h2)]
      by_cases h3 : mergeE runs = 0
      · rw [if_neg (by simpa using h3)]; simp [h3]
      · rw [if_pos h3]; simp [h3]
    · rw [if_pos h2]
      refine ⟨fun q => absurd q h2, fun q => ?_⟩
      exact absurd ((firstP_iff runs).2 ((mergeE_iff runs).1 q).2.2.1) h2
theorem merge_sorted {runs : List (List En)} (h : ∀ r ∈ runs, ordL r = 0) (hn : NoTw runs.flatten) {l : List En} (hp : l.Perm runs.flatten) (hs : SrtE l) : l = mergeL runs := by
  have hA : ∀ r ∈ runs, Asc r := fun r hr => ((ord_iff r).1 (h r hr)).2
  have hw : Wk l := hs.imp (fun q k => by rw [q] at k; cases k)
  refine asc_unique _ _ ((asc_iff hw).2 ((notw_perm hp).2 hn)) ((merge_asc hA).2 hn) (fun x => ?_)
  rw [hp.mem_iff, (merge_perm runs).mem_iff]
set_option maxHeartbeats 4000000 in
theorem merge_any (runs : List (List En)) (a : Option Addr) (n c : Nat) (w : World) (hv : RunsR w (.slice a n c) runs) (hb : ∀ r ∈ runs, r.length ≤ 2932031007402) :
    Calls Tryz.prog 37 #[.slice a n c] w fun e w' => ∃ a' n' c', e = .returned (.tuple #[.slice a' n' c', .int .i64 (mergeP runs)]) ∧ Hid (EntsR w' (.slice a' n' c') (mergeM runs)) ∧ Hid (Below w.heap.size w w') := by
  have HV := hid hv
  have HBB := hid hb
  obtain ⟨a1, c1, e1, hc, hm⟩ := hv.len
  simp only [Value.slice.injEq] at e1
  obtain ⟨rfl, hn, rfl⟩ := e1
  subst hn
  have h63 : runs.length ≤ 9223372036854775807 := by unfold maxLen at hm; omega
  have HBAD : Hid (mergeP runs ≠ 0 → mergeM runs = []) := fun h => by
    unfold mergeM
    rw [if_neg (fun q => h ((mergeP_iff runs).2 q))]
  clear hv hb
  by_cases h64 : 64 < runs.length
  · have h64' : (64 : Int) < (runs.length : Int) := by omega
    have HC0 : Hid ((3 : Int) = mergeP runs) := by unfold Hid mergeP; rw [if_pos (.inl h64)]
    have HSM : Hid (mergeM runs = []) := HBAD.out (by rw [← HC0.out]; decide)
    go_enter Tryz.func37, Tryz.ntmps37
    go_wp2_with fail
    go_ret2
    exact ⟨none, 0, 0, ret_two HC0.out, by unfold Hid; rw [HSM.out]; exact Rws.nil _ _, Below.refl _ _⟩
  have h64' : ¬ (64 : Int) < (runs.length : Int) := by omega
  have HVI := hid (versionsIn_any runs a runs.length c w HV.out (by omega) HBB.out)
  by_cases hsum : 65536 < sumL runs
  · have hsum' : (65536 : Int) < (sumL runs : Int) := by omega
    have HC0 : Hid ((3 : Int) = mergeP runs) := by unfold Hid mergeP; rw [if_pos (.inr hsum)]
    have HSM : Hid (mergeM runs = []) := HBAD.out (by rw [← HC0.out]; decide)
    go_enter Tryz.func37, Tryz.ntmps37
    go_wp2_with fail
    refine HVI.out.mono ?_
    rintro e w1 ⟨rfl, rfl⟩
    go_wp2_with fail
    go_ret2
    exact ⟨none, 0, 0, ret_two HC0.out, by unfold Hid; rw [HSM.out]; exact Rws.nil _ _, Below.refl _ _⟩
  have hsum' : ¬ (65536 : Int) < (sumL runs : Int) := by omega
  have HMP : Hid (mergeP runs = if firstPQ runs ≠ 0 then firstPQ runs else if mergeE runs ≠ 0 then 6 else 0) := by unfold Hid mergeP; rw [if_neg (by omega)]
  have HFL : Hid (runs.flatten.length ≤ 65536) := by
    unfold Hid
    rw [List.length_flatten]
    unfold sumL at hsum
    omega
  have HM3 : Hid (mergeE runs = 0 ↔ (∀ r ∈ runs, ordL r = 0) ∧ NoTw runs.flatten) := by
    unfold Hid
    rw [mergeE_iff]
    unfold sumL at hsum
    exact ⟨fun h => ⟨h.2.2.1, h.2.2.2⟩, fun h => ⟨by omega, by omega, h.1, h.2⟩⟩
  go_enter Tryz.func37, Tryz.ntmps37
  go_wp2_with fail
  refine HVI.out.mono ?_
  rintro e w1 ⟨rfl, rfl⟩
  clear HVI
  go_wp2_with fail
  go_loopw [20] (fun i wr => ∃ k : Nat, k ≤ runs.length ∧ i = .int .i64 k ∧ Hid (∀ r ∈ runs.take k, chkP r = 0) ∧ Hid (Below w1.heap.size w1 wr)) (fun i _ => runs.length - (intOf i).toNat)
  case atStart => exact ⟨0, Nat.zero_le _, rfl, (fun r hr => by simp at hr), Below.refl _ _⟩
  case round =>
    obtain ⟨k, hk, rfl, HK, HB⟩ := hrel
    by_cases hlt : k < runs.length
    · have hlt' : (k : Int) < (runs.length : Int) := by omega
      obtain ⟨b, off, cap, ra, rc, r, e, hr, z0, hE⟩ := (HV.out.up HB.out).at k hlt
      simp only [Value.slice.injEq] at e
      obtain ⟨rfl, _, rfl⟩ := e
      have HR := hid hr
      have HCK := hid (mcheck_any r (.slice ra r.length rc) wr hE)
      clear hr hE
      by_cases h0 : chkP r = 0
      · have HK2 : Hid (∀ q ∈ runs.take (k + 1), chkP q = 0) := by
          intro q hq
          rw [List.take_add_one, HR.out] at hq
          rcases List.mem_append.1 hq with t | t
          · exact HK.out q t
          · simp at t
            rw [t]
            exact h0
        rw [h0] at HCK
        clear h0
        go_wp2_with fail
        refine HCK.out.mono ?_
        rintro e w2 ⟨rfl, u2⟩
        go_wp2_with fail
        exact ⟨⟨k + 1, by omega, by go_num, HK2, up_trans HB.out u2.out⟩, by simp [intOf]; omega⟩
      · have HF : Hid (firstPQ runs = chkP r) := firstP_at HR.out h0 HK.out
        have HC0 : Hid (chkP r = mergeP runs) := by unfold Hid; rw [HMP.out, HF.out, if_pos h0]
        have HSM : Hid (mergeM runs = []) := HBAD.out (by rw [← HC0.out]; exact h0)
        have hb1 : (chkP r != 0) = true := by simp [h0]
        have hb2 : (chkP r = 0) = False := by simp [h0]
        clear h0
        go_wp2_with fail
        refine HCK.out.mono ?_
        rintro e w2 ⟨rfl, u2⟩
        go_wp2_with fail
        go_ret2
        exact ⟨none, 0, 0, ret_two HC0.out, by unfold Hid; rw [HSM.out]; exact Rws.nil _ _, up_trans HB.out u2.out⟩
    · have hlt' : ¬ (k : Int) < (runs.length : Int) := by omega
      obtain rfl : k = runs.length := by omega
      have HORD : Hid (∀ r ∈ runs, ordL r = 0) := by
        have := HK.out
        rw [List.take_length] at this
        exact fun r hr => (chkP_iff r).1 (this r hr)
      have HF0 : Hid (firstPQ runs = 0) := (firstP_iff runs).2 HORD.out
      have HMY : Hid (∀ x ∈ runs.flatten, mayE x = true) := fun x hx => by
        obtain ⟨r, hr, hxr⟩ := List.mem_flatten.1 hx
        exact ((ord_iff r).1 (HORD.out r hr)).1 x hxr
      have HTW := hid (anyTwice_any runs a runs.length c wr (HV.out.up HB.out) HMY.out HFL.out)
      clear HK
      go_wp2_with fail
      refine HTW.out.mono ?_
      intro e w2 hTW
      obtain ⟨q, rfl, hq, u2⟩ := hTW
      have HQ := hid hq
      have HB2 : Hid (Below w1.heap.size w1 w2) := up_trans HB.out u2
      clear HTW HB hq u2
      cases q with
      | true =>
        have hne : mergeE runs ≠ 0 := fun t => (HQ.out.1 rfl) (HM3.out.1 t).2
        have HC0 : Hid ((6 : Int) = mergeP runs) := by unfold Hid; rw [HMP.out, HF0.out]; simp [hne]
        have HSM : Hid (mergeM runs = []) := HBAD.out (by rw [← HC0.out]; decide)
        clear hne HQ
        go_wp2_with fail
        go_ret2
        exact ⟨none, 0, 0, ret_two HC0.out, by unfold Hid; rw [HSM.out]; exact Rws.nil _ _, HB2.out⟩
      | false =>
        have HNT : Hid (NoTw runs.flatten) := by
          unfold Hid
          exact Classical.byContradiction (fun t => by have := HQ.out.2 t; cases this)
        have hE0 : mergeE runs = 0 := HM3.out.2 ⟨HORD.out, HNT.out⟩
        have HC0 : Hid ((0 : Int) = mergeP runs) := ((mergeP_iff runs).2 hE0).symm
        have HSM : Hid (mergeM runs = mergeL runs) := by unfold Hid mergeM; rw [if_pos hE0]
        clear HQ hE0
        go_wp2_with fail
        go_loopw [34, 7] (fun i s wr => ∃ (k : Nat) (sa : Option Addr) (sn sc : Nat), k ≤ runs.length ∧ i = .int .i64 k ∧ s = .slice sa sn sc ∧ Hid (OwnE wr w1.heap.size (.slice sa sn sc) (runs.take k).flatten) ∧ Hid (Below w1.heap.size w1 wr)) (fun i _ _ => runs.length - (intOf i).toNat)
        case atStart => exact ⟨0, none, 0, 0, Nat.zero_le _, rfl, rfl, OwnR.nil _ _ _ _, HB2⟩
        case round =>
          obtain ⟨k, sa, sn, sc, hk, rfl, rfl, HO, HB⟩ := hrel
          clear HB2
          by_cases hlt : k < runs.length
          · have hlt' : (k : Int) < (runs.length : Int) := by omega
            obtain ⟨b, off, cap, ra, rc, r, e, hr, z0, hE⟩ := (HV.out.up HB.out).at k hlt
            simp only [Value.slice.injEq] at e
            obtain ⟨rfl, _, rfl⟩ := e
            have HFS : Hid ((runs.take (k + 1)).flatten = (runs.take k).flatten ++ r) := by
              unfold Hid
              rw [List.take_add_one, hr, List.flatten_append]
              simp
            have HRE := hid hE
            have hln : (runs.take k).flatten.length + r.length ≤ 65536 := by
              have h1 := congrArg List.length HFS.out
              rw [List.length_append] at h1
              have h2 := flat_take_len runs (k + 1)
              have h3 := HFL.out
              omega
            generalize (runs.take k).flatten = G at *
            have hb1 : (((G.map enRow).length + (r.map enRow).length) + ((G.map enRow).length + (r.map enRow).length) / 4 + 192) * 48 ≤ 281474976710656 := by
              rw [List.length_map, List.length_map]
              omega
            have hb2 : (G.map enRow).length + (r.map enRow).length ≤ maxLen := by
              rw [List.length_map, List.length_map]
              unfold maxLen
              omega
            have HC := hid (And.intro hb1 (And.intro hb2 HB.out.size))
            clear hb1 hb2 hr hE hln
            go_wp2_with (at_builtin; refine wpList_append_rows wr rfl _ _ 42 50 _ 4 48 rfl Tryz.underlying42 Tryz.infoE rfl (by decide) w1.heap.size (.slice sa sn sc) (G.map enRow) rfl HO.out (.slice ra r.length rc) (r.map enRow) rfl HRE.out (rows_oneE r) HC.out.1 HC.out.2.1 HC.out.2.2 ?_)
            intro v' w' hown hgr
            have HO2 : Hid (OwnE w' w1.heap.size v' (runs.take (k + 1)).flatten) := by
              unfold Hid OwnE
              rw [HFS.out, List.map_append]
              exact hown
            obtain ⟨a3, c3, ev⟩ := HO2.out.form
            subst ev
            have HB3 : Hid (Below w1.heap.size w1 w') := HB.out.grown hgr HB.out.size (fun q hq => (HO.out.2.lt q hq).1)
            clear hown hgr
            go_wp2_with fail
            exact ⟨⟨k + 1, a3, _, c3, by omega, by go_num, rfl, HO2, HB3⟩, by simp [intOf]; omega⟩
          · have hlt' : ¬ (k : Int) < (runs.length : Int) := by omega
            obtain rfl : k = runs.length := by omega
            rw [List.take_length] at HO
            have HSRT := hid (sort_any runs.flatten sa sn sc w1.heap.size wr HO.out HB.out.size (by have := HFL.out; omega))
            go_wp2_with fail
            refine HSRT.out.mono ?_
            rintro e w4 ⟨rfl, HX, u4⟩
            have HFIN : Hid (EntsR w4 (.slice sa sn sc) (mergeM runs)) := by
              obtain ⟨l', hp, hs, ho⟩ := HX.out
              unfold Hid
              rw [HSM.out, ← merge_sorted HORD.out HNT.out hp hs]
              exact Rws.own ho
            have HB4 : Hid (Below w1.heap.size w1 w4) := HB.out.trans u4.out
            clear HX u4 HSRT
            go_wp2_with fail
            go_ret2
            exact ⟨sa, sn, sc, ret_two HC0.out, HFIN, HB4⟩
end Go.Proofs.YthiegmhplnbdlaaGreat

namespace Go.Proofs.YthiegmhplnbdlaaGreat
open Go.RowKit
set_option linter.unusedVariables false
set_option linter.unusedSimpArgs false
set_option maxRecDepth 100000
theorem Tryz.info42 : (Tryz.prog.info? 42).map (fun i => (i.zero, i.size, i.bytes)) = some (some (.slice none 0 0), 1, 24) := by kernel_rfl
theorem own_oneZ (w : World) (t : TypeId) (u : Value) : OwnR (w.alloc (.cells #[u] t)) w.heap.size t 1 (.slice (some ⟨w.heap.size, 0, none⟩) 1 1) [[u]] := by
  refine ⟨fun cs hc => by simp at hc; rw [hc]; rfl, ?_⟩
  exact World.ownsRow_lit (base := w.heap.size) (e := t) (size := 1) w #[u] 1 (Nat.le_refl _) (by unfold maxLen; omega) rfl
theorem mergeM_of {runs : List (List En)} (h : mergeE runs = 0) : mergeM runs = mergeL runs := by unfold mergeM; rw [if_pos h]
theorem runs_part {w : World} {b off n c : Nat} {us : List Value} (h : Rws 1 w (.slice (some ⟨b, off, none⟩) n c) (us.map srowQ)) (q r : Nat) (hqr : q ≤ r) (hr : r ≤ us.length) : Rws 1 w (.slice (some ⟨b, off + q, none⟩) (r - q) (c - q)) (((us.drop q).take (r - q)).map srowQ) := by
  have h1 := Rws.dropN h q (by rw [List.length_map]; omega)
  have h2 := Rws.first h1 (r - q) (by rw [List.length_drop, List.length_map]; omega)
  rw [Nat.mul_one] at h2
  rw [List.map_take, List.map_drop]
  exact h2
theorem runs_join {w' : World} {v oa : Value} {us : List Value} {V out : List En} {q r : Nat} (hq : q ≤ r) (hr : r ≤ us.length) (hl : us.length = V.length) (ho : Rws 1 w' v ([oa] :: ((us.drop q).take (r - q)).map srowQ)) (hE : EntsR w' oa out)
    (he : ∀ (i : Nat) (u : Value) (x : En), us[i]? = some u → V[i]? = some x → EntsR w' u [x]) : RunsR w' v (out :: ((V.drop q).take (r - q)).map (fun x => [x])) := by
  refine ⟨oa :: (us.drop q).take (r - q), by rw [List.map_cons]; exact ho, by simp [hl], fun i u y hu hy => ?_⟩
  match i, hu, hy with
  | 0, hu, hy => simp at hu hy; subst hu hy; exact hE
  | k + 1, hu, hy =>
    rw [List.getElem?_cons_succ] at hu hy
    rw [List.getElem?_map] at hy
    cases hz : ((V.drop q).take (r - q))[k]? with
    | none => rw [hz] at hy; simp at hy
    | some x =>
      rw [hz] at hy
      simp at hy
      subst hy
      rw [List.getElem?_take] at hu hz
      split at hu
      · rw [if_pos (by assumption)] at hz
        rw [List.getElem?_drop] at hu hz
        exact he _ u x hu hz
      · cases hu
theorem runs_singles {w : World} {v : Value} {V : List En} (h : RunsR w v (V.map fun x => [x])) : ∃ us : List Value, Rws 1 w v (us.map srowQ) ∧ us.length = V.length ∧ ∀ (i : Nat) (u : Value) (x : En), us[i]? = some u → V[i]? = some x → EntsR w u [x] := by
  obtain ⟨us, h1, h2, h3⟩ := h
  exact ⟨us, h1, by simpa using h2, fun i u x hu hx => h3 i u [x] hu (by rw [List.getElem?_map, hx]; rfl)⟩
set_option maxHeartbeats 4000000 in
theorem merged_any (V : List En) (a : Option Addr) (n c : Nat) (w : World) (hn : NumE V) (hm : ∀ x ∈ V, mayE x = true) (hV : V.length ≤ 4096) (hv : RunsR w (.slice a n c) (V.map fun x => [x])) :
    Calls Tryz.prog 13 #[.slice a n c] w fun e w' => ∃ a' n' c', e = .returned (.tuple #[.slice a' n' c', .bool true]) ∧ Hid (∃ out, EntsR w' (.slice a' n' c') out ∧ SrtOf V out) ∧ Hid (Below w.heap.size w w') := by
  have HNM : Hid (NumE V ∧ (∀ x ∈ V, mayE x = true)) := ⟨hn, hm⟩
  obtain ⟨us, hR, hul, hE⟩ := runs_singles hv
  have HR := hid hR
  have HE := hid hE
  have HUL := hid hul
  have hnn : n = us.length := by
    obtain ⟨a9, c9, e9, _⟩ := Rws.len hR
    simp only [Value.slice.injEq, List.length_map] at e9
    exact e9.2.1
  have hcl : us.length ≤ c := by
    obtain ⟨a9, c9, e9, h9, _⟩ := Rws.len hR
    simp only [Value.slice.injEq, List.length_map] at e9 h9
    rw [e9.2.2]
    exact h9
  have hL : us.length ≤ 4096 := by omega
  subst hnn
  obtain ⟨L, hLL⟩ : ∃ L, L = us.length := ⟨_, rfl⟩
  have HLL := hid hLL
  rw [← hLL] at hcl hL HR ⊢
  clear hR hE hul hv hn hm hV hLL
  go_enter Tryz.func13, Tryz.ntmps13
  go_wp2_with fail
  go_loopw [4, 5] (fun vo vi wr => ∃ (j q on : Nat) (oa : Option Addr) (oc : Nat), q = 40 * j ∧ vo = .slice oa on oc ∧ vi = .int .i64 (q : Int) ∧ q < L + 40 ∧ Hid (∃ out, EntsR wr (.slice oa on oc) out ∧ SrtOf (V.take q) out ∧ out.length = on) ∧ Hid (Below w.heap.size w wr)) (fun _ vi _ => L + 40 - (intOf vi).toNat)
  case atStart => exact ⟨0, 0, 0, none, 0, rfl, rfl, rfl, by omega, ⟨[], Rws.nil _ _, ⟨List.Pairwise.nil, by simp⟩, rfl⟩, Below.refl _ _⟩
  case round =>
    obtain ⟨j, q, on, oa, oc, hq, rfl, rfl, hqL, HO, hU⟩ := hrel
    have HQ := hid hq
    clear hq
    by_cases hlt : q < L
    · have hlt' : (q : Int) < (L : Int) := by omega
      obtain ⟨out, hEO, hSO, hon⟩ := HO.out
      obtain ⟨b9, off, c9, e9, _, _, _⟩ := Rws.at HR.out 0 (by rw [List.length_map]; have := HLL.out; omega)
      simp only [Value.slice.injEq] at e9
      obtain ⟨rfl, hz1, rfl⟩ := e9
      obtain ⟨r, hr⟩ : ∃ r, r = min (q + 40) L := ⟨_, rfl⟩
      have e1 : (if (L : Int) < (q : Int) + 40 then (L : Int) else (q : Int) + 40) = (r : Int) := by
        rw [hr]
        split <;> omega
      have e1m : min ((q : Int) + 40) (L : Int) = (r : Int) := by rw [hr]; omega
      have r1 : q ≤ r := by omega
      have r2 : r ≤ L := by omega
      have r3 : r ≤ c := by omega
      have r4 : Hid (r - q ≤ 40) := by unfold Hid; omega
      have hw1 : IntKind.i64.wrap ((q : Int) + 40) = (q : Int) + 40 := by rw [IntKind.wrap_i64]; omega
      have hcq : ¬ c = q := by omega
      have HLE := HLL.out
      have HP := hid (runs_part (HR.out.up hU.out) q r r1 (by omega))
      have HMM := hid (merge_more (i := q) (n := r - q) HNM.out.1 HNM.out.2 (by have := HUL.out; omega) (by have := HUL.out; omega) (by omega) hSO)
      have HEO := hid hEO
      have HB1 : Hid ((([[Value.slice oa on oc]].length + (((us.drop q).take (r - q)).map srowQ).length) + ([[Value.slice oa on oc]].length + (((us.drop q).take (r - q)).map srowQ).length) / 4 + 192) * 24 ≤ 281474976710656) := by
        unfold Hid
        rw [List.length_map, List.length_take]
        simp only [List.length_singleton]
        omega
      have HB2 : Hid ([[Value.slice oa on oc]].length + (((us.drop q).take (r - q)).map srowQ).length ≤ maxLen) := by
        unfold Hid maxLen
        rw [List.length_map, List.length_take]
        simp only [List.length_singleton]
        omega
      have HO1 : Hid (∀ cs ∈ ((us.drop q).take (r - q)).map srowQ, ∀ u ∈ cs, u.oneCell' = true) := by
        intro cs hcs u hu
        obtain ⟨y, hy, rfl⟩ := List.mem_map.1 hcs
        simp only [srowQ, List.mem_singleton] at hu
        subst hu
        obtain ⟨i, hi⟩ := List.getElem?_of_mem (List.mem_of_mem_drop (List.mem_of_mem_take hy))
        have hiL : i < V.length := by have := (List.getElem?_eq_some_iff.1 hi).1; have := HUL.out; omega
        obtain ⟨a9, c9, e9, _⟩ := (HE.out i u _ hi (List.getElem?_eq_getElem hiL)).len
        rw [e9]
        rfl
      have HW := hid (own_oneZ wr 42 (.slice oa on oc))
      have HPA : Hid (Rws 1 (wr.alloc (.cells #[.slice oa on oc] 42)) (.slice (some ⟨b9, off + q, none⟩) (r - q) (c - q)) (((us.drop q).take (r - q)).map srowQ)) := HP.out.up (up_alloc _ _)
      have HSZ : Hid (wr.heap.size ≤ (wr.alloc (.cells #[.slice oa on oc] 42)).heap.size) := by unfold Hid; simp
      have HRJ : Hid (∀ w' v, Below wr.heap.size wr w' → Rws 1 w' v ([.slice oa on oc] :: ((us.drop q).take (r - q)).map srowQ) → RunsR w' v (out :: ((V.drop q).take (r - q)).map (fun x => [x]))) := fun w' v hb hw =>
        runs_join r1 (by omega) HUL.out hw (hEO.up hb) (fun i u x hu hx => (HE.out i u x hu hx).up (up_trans hU.out hb))
      have HLQ : Hid (out.length ≤ 4096) := by
        unfold Hid
        rw [hSO.2.length_eq, List.length_take]
        have := HUL.out
        omega
      have HY1 : Hid (∀ r' ∈ ((V.drop q).take (r - q)).map (fun x => [x]), r'.length ≤ 1) := by
        intro r' hr'
        obtain ⟨x, _, rfl⟩ := List.mem_map.1 hr'
        exact Nat.le_refl _
      generalize ((us.drop q).take (r - q)).map srowQ = T at *
      generalize ((V.drop q).take (r - q)).map (fun x => [x]) = Y at *
      clear hr hEO hSO hon HLE hz1 HP
      go_wp2_with (at_builtin; refine wpList_append_rows _ rfl _ _ 41 42 _ 1 24 rfl Tryz.underlying41 Tryz.info42 rfl (by decide) wr.heap.size (.slice (some ⟨wr.heap.size, 0, none⟩) 1 1) [[.slice oa on oc]] rfl HW.out (.slice (some ⟨b9, off + q, none⟩) (r - q) (c - q)) T rfl HPA.out HO1.out HB1.out HB2.out HSZ.out ?_)
      intro v4 w4 O4 G4
      have U4 : Hid (Below wr.heap.size wr w4) := (up_alloc wr _).grown G4 (by simp) (by simp [Value.ownBlock])
      have HRN : Hid (RunsR w4 v4 (out :: Y)) := HRJ.out w4 v4 U4.out (Rws.own O4)
      obtain ⟨a4, c4, e4, _⟩ := HRN.out.len
      subst e4
      have HMG := hid (merge_any (out :: Y) a4 (out :: Y).length c4 w4 HRN.out (fun r hr => by
        rcases List.mem_cons.1 hr with rfl | hr
        · exact Nat.le_trans HLQ.out (by decide)
        · exact Nat.le_trans (HY1.out r hr) (by decide)))
      rw [(mergeP_iff _).2 HMM.out.1, mergeM_of HMM.out.1] at HMG
      generalize (out :: Y).length = LN at *
      clear O4 G4 HRN HRJ HW HPA HB1 HB2 HO1 HSZ
      go_wp2_with fail
      refine HMG.out.mono ?_
      rintro e w5 ⟨a5, n5, c5, rfl, E5, u5⟩
      have U5 : Hid (Below w.heap.size w w5) := up_trans hU.out (up_trans U4.out u5.out)
      have HF : Hid (∃ out, EntsR w5 (.slice a5 n5 c5) out ∧ SrtOf (V.take (q + 40)) out ∧ out.length = n5) := by
        obtain ⟨a9, c9, e9, _⟩ := E5.out.len
        simp only [Value.slice.injEq] at e9
        refine ⟨_, E5.out, ?_, e9.2.1.symm⟩
        have h := HMM.out.2
        rw [show q + (r - q) = r by omega] at h
        by_cases h40 : q + 40 ≤ L
        · rw [show r = q + 40 by have := e1; split at this <;> omega] at h
          exact h
        · have hrL : r = L := by have := e1; split at this <;> omega
          rw [List.take_of_length_le (by have := HUL.out; have := HLL.out; omega)] at h ⊢
          exact h
      clear HMG E5 u5 HMM HO
      go_wp2_with fail
      exact ⟨⟨j + 1, q + 40, n5, a5, c5, by have := HQ.out; omega, rfl, by go_num, by omega, HF, U5⟩, by simp [intOf]; omega⟩
    · have hlt' : ¬ (q : Int) < (L : Int) := by omega
      have HF : Hid (∃ out, EntsR wr (.slice oa on oc) out ∧ SrtOf V out) := by
        obtain ⟨out, h1, h2, _⟩ := HO.out
        rw [List.take_of_length_le (by have := HUL.out; have := HLL.out; omega)] at h2
        exact ⟨out, h1, h2⟩
      go_wp2_with fail
      go_ret2
      exact ⟨oa, on, oc, rfl, HF, hU⟩
end Go.Proofs.YthiegmhplnbdlaaGreat

namespace Go.Proofs.YthiegmhplnbdlaaGreat
open Go.RowKit SumPlain
set_option linter.unusedVariables false
def panics (x : Int) : Ending := .panicked [{ v := .iface 29 (.int .i64 x), recovered := false }]
def Rd (w0 w : World) (N : Nat) (l : List Int) : Prop :=
  Below w0.heap.size w0 w ∧ w0.heap.size ≤ N ∧ ∃ a c, w.heap[N]? = some (.cells #[.slice a l.length c] 177) ∧ Octs w0 (.slice a l.length c) l
theorem Rd.up {w0 w w' : World} {N : Nat} {l : List Int} (h : Rd w0 w N l) (hb : Below w.heap.size w w') : Rd w0 w' N l := by
  obtain ⟨h1, h2, a, c, h3, h4⟩ := h
  exact ⟨h1.trans (hb.mono h1.size), h2, a, c, blk_up h3 hb, h4⟩
theorem Rd.grown {w0 w w' : World} {N : Nat} {l : List Int} {r : Option Nat} (h : Rd w0 w N l) (hg : w.grownBy w' r) (hr : ∀ g, r = some g → w0.heap.size ≤ g ∧ g ≠ N) : Rd w0 w' N l := by
  obtain ⟨h1, h2, a, c, h3, h4⟩ := h
  exact ⟨h1.grown hg h1.size (fun k hk => (hr k hk).1), h2, a, c, blk_grown h3 hg (fun e => (hr N e.symm).2 rfl), h4⟩
theorem Rd.set {w0 w : World} {N : Nat} {l l' : List Int} {a : Option Addr} {c : Nat} (h : Rd w0 w N l) (h4 : Octs w0 (.slice a l'.length c) l') : Rd w0 (w.setCell ⟨N, 0, none⟩ (.slice a l'.length c)) N l' := by
  obtain ⟨h1, h2, a0, c0, h3, _⟩ := h
  exact ⟨h1.grown (grown_set _ _ _) h1.size (fun k hk => by simp at hk; omega), h2, a, c, blk_set h3 0 _, h4⟩
theorem octs_first {w : World} {a : Option Addr} {c n : Nat} {l : List Int} (h : Octs w (.slice a l.length c) l) (hn : n ≤ l.length) : Octs w (.slice a n c) (l.take n) := by
  cases a with
  | none =>
    obtain ⟨hx, hv⟩ := h
    rcases hv with ⟨rfl, a, cap, e, ha⟩ | ⟨hne, b, off, cap, e, _⟩
    · simp at e hn
      obtain ⟨rfl, rfl⟩ := e
      subst hn
      exact ⟨by simp, .inl ⟨by simp, _, _, rfl, ha⟩⟩
    · simp at e
  | some x =>
    by_cases hl : l = []
    · subst hl
      simp at hn
      subst hn
      exact ⟨by simp, .inl ⟨by simp, _, _, rfl, fun e => by cases e⟩⟩
    · obtain ⟨hx, hv⟩ := h
      rcases hv with ⟨h0, _⟩ | ⟨_, b, off, cap, e, h1, h2, h3⟩
      · exact absurd h0 hl
      · simp at e
        obtain ⟨rfl, rfl⟩ := e
        exact Octs.cut ⟨hx, .inr ⟨hl, b, off, c, rfl, h1, h2, h3⟩⟩ rfl n hn
theorem octs_rest {w : World} {b off c n : Nat} {l : List Int} (h : Octs w (.slice (some ⟨b, off, none⟩) l.length c) l) (hn : n ≤ l.length) (hc : l.length ≤ c) : Octs w (.slice (some ⟨b, off + n, none⟩) (l.length - n) (c - n)) (l.drop n) := h.back rfl n hn hc
theorem take_bad (N n : Nat) (l : List Int) (w0 w : World) (h : Rd w0 w N l) (hn : l.length < n) (hn2 : n ≤ 65536) :
    Calls Tryz.prog 123 #[.pointer (some ⟨N, 0, none⟩), .int .i64 n] w fun e w' => e = panics 8 ∧ w' = w := by
  obtain ⟨h1, h2, a, c, h3, h4⟩ := h
  have p0 := blk_cell h3 0 _ rfl
  have g : (l.length : Int) < (n : Int) := by omega
  clear h1 h2 h3 h4
  go_enter Tryz.func123, Tryz.ntmps123
  go_wp2
  exact ⟨rfl, rfl, rfl⟩
set_option maxHeartbeats 1000000 in
theorem take_ok (N n : Nat) (l : List Int) (w0 w : World) (h : Rd w0 w N l) (hn : n ≤ l.length) (hn2 : n ≤ 65536) :
    Calls Tryz.prog 123 #[.pointer (some ⟨N, 0, none⟩), .int .i64 n] w fun e w' => ∃ a c, e = .returned (.slice a n c) ∧ Hid (Octs w0 (.slice a n c) (l.take n)) ∧ Hid (Rd w0 w' N (l.drop n)) ∧ Hid (w.grownBy w' (some N)) := by
  have HR : Hid (Rd w0 w N l) := h
  obtain ⟨h1, h2, a, c, h3, h4⟩ := h
  have p0 := blk_cell h3 0 _ rfl
  have z0 := blk_frozen h3 0
  have g : ¬ (l.length : Int) < (n : Int) := by omega
  have HF : Hid (Octs w0 (.slice a n c) (l.take n)) := octs_first h4 hn
  have HL : Hid ((l.drop n).length = l.length - n) := List.length_drop
  have HS : Hid (∀ a' c', Octs w0 (.slice a' (l.length - n) c') (l.drop n) → Rd w0 (w.setCell ⟨N, 0, none⟩ (.slice a' (l.length - n) c')) N (l.drop n)) := by
    intro a' c' ho
    have e := HL.out
    rw [← e] at ho ⊢
    exact HR.out.set ho
  clear h1 h2 h3
  rcases h4.form with ⟨rfl, rfl, rfl⟩ | ⟨x, rfl, rfl⟩ | ⟨b, off, rfl, hne, hc, hm⟩
  · simp at hn
    subst hn
    have H0 : Hid (Octs w0 (.slice none 0 0) []) := h4
    clear h4 g
    simp only [List.length_nil, Nat.sub_zero, List.drop_nil, List.take_nil] at p0 HS HF ⊢
    have HS2 : Hid (Rd w0 (w.setCell ⟨N, 0, none⟩ (.slice none 0 0)) N []) := HS.out _ _ H0.out
    clear HS
    go_enter Tryz.func123, Tryz.ntmps123
    go_wp2
    go_ret
    exact ⟨_, _, rfl, HF, HS2, grown_set _ _ _⟩
  · simp at hn
    subst hn
    have H0 : Hid (∀ x c, Octs w0 (.slice (some x) 0 c) []) := fun x c => ⟨by simp, .inl ⟨rfl, _, _, rfl, fun e => by cases e⟩⟩
    clear h4 g
    simp only [List.length_nil, Nat.sub_zero, List.drop_nil, List.take_nil] at p0 HS HF ⊢
    have HS2 : Hid (∀ x c, Rd w0 (w.setCell ⟨N, 0, none⟩ (.slice (some x) 0 c)) N []) := fun x c => HS.out _ _ (H0.out _ _)
    clear HS
    go_enter Tryz.func123, Tryz.ntmps123
    go_wp2
    all_goals
      go_ret
      exact ⟨_, _, rfl, HF, HS2.out _ _, grown_set _ _ _⟩
  · by_cases hcn : c = n
    · obtain rfl : n = l.length := by omega
      obtain rfl : c = l.length := hcn
      simp only [List.take_length, List.drop_length, Nat.sub_self] at HF HS ⊢
      have HS2 : Hid (∀ x c, Rd w0 (w.setCell ⟨N, 0, none⟩ (.slice (some x) 0 c)) N []) := fun x c => HS.out _ _ ⟨by simp, .inl ⟨rfl, _, _, rfl, fun e => by cases e⟩⟩
      clear HS h4 HL
      unfold maxLen at hm
      go_enter Tryz.func123, Tryz.ntmps123
      go_wp2
      go_ret
      exact ⟨_, _, rfl, HF, HS2.out _ _, grown_set _ _ _⟩
    · have HS2 : Hid (Rd w0 (w.setCell ⟨N, 0, none⟩ (.slice (some ⟨b, off + n, none⟩) (l.length - n) (c - n))) N (l.drop n)) := HS.out _ _ (octs_rest h4 hn hc)
      clear HS h4
      unfold maxLen at hm
      go_enter Tryz.func123, Tryz.ntmps123
      go_wp2
      go_ret
      exact ⟨_, _, rfl, HF, HS2, grown_set _ _ _⟩
end Go.Proofs.YthiegmhplnbdlaaGreat
