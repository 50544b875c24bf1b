/- The act that renames. -/
import Derived.Test.YtoceddpjkodfkaaQB
namespace Go.Proofs.Ytoceddpjkodfkaa
open Go.RowKit
set_option linter.unusedVariables false
set_option linter.unusedSimpArgs false

def renamed (l : List (List Int × Int)) (tn : List Int) (id : Int) : List (List Int × Int) :=
  if thereN l tn then l.set (rankN l tn) ((l.getD (rankN l tn) ([], 0)).1, id) else insN l (rankN l tn) (tn, id)

def renameP (s : St) (name tn : List Int) : St × Int :=
  if thereN s.names name then
    if mayOf tn then
      if tn = name then (s, 0) else (sweptOf { s with names := renamed (s.names.eraseIdx (rankN s.names name)) tn (idN s name) }, 0)
    else (s, 31)
  else (s, 71)

theorem getD_erase (l : List (List Int × Int)) (r k : Nat) (d : List Int × Int) : (l.eraseIdx r).getD k d = if k < r then l.getD k d else l.getD (k + 1) d := by
  simp only [List.getD, List.getElem?_eraseIdx]
  split <;> rfl

theorem RiseN.erase {l : List (List Int × Int)} (h : RiseN l) (r : Nat) (hr : r < l.length) : RiseN (l.eraseIdx r) := by
  intro a b hab hb
  have hlen : (l.eraseIdx r).length = l.length - 1 := by rw [List.length_eraseIdx, if_pos hr]
  rw [getD_erase, getD_erase]
  split <;> split
  · exact h _ _ hab (by omega)
  · exact h _ _ (by omega) (by omega)
  · omega
  · exact h _ _ (by omega) (by omega)

theorem OpenS.setId {w : World} {base B : Nat} {s : St} {af : Option Addr} {cf g cn : Nat} {as' : Option Addr} {cs' : Nat} {m : List FRow} (h : OpenS w base B s af cf (some ⟨g, 0, none⟩) cn as' cs' m) (hbase : base ≤ w.heap.size) (j : Nat) (hj : j < s.names.length) (id : Int) (hid : In64 id) :
    OwnS (w.setCell ⟨g, j * 2 + 1, none⟩ (.int .i64 id)) base B { s with names := s.names.set j ((s.names.getD j ([], 0)).1, id) } ∧ Beside base B w (w.setCell ⟨g, j * 2 + 1, none⟩ (.int .i64 id)) := by
  obtain ⟨hB, hb, hm, of, on, os, hap, hi1, hi2⟩ := h
  have st := OwnR.set on.2 (by rw [List.length_map]) j hj 1 (by decide) (.int .i64 id)
  have hrow : ((s.names.map nrow).getD j []).set 1 (.int .i64 id) = nrow ((s.names.getD j ([], 0)).1, id) := by simp [List.getD, hj, nrow]
  rw [hrow, ← List.map_set] at st
  have hgb := on.2.2.lt g rfl
  have nB : some B ≠ some g := by
    have := own_blk_ne on.2.2 hb (by decide)
    simp [Value.ownBlock] at this
    intro q
    injection q with q
    exact this q.symm
  have g5 := st.2.1
  have hlen : (s.names.set j ((s.names.getD j ([], 0)).1, id)).length = s.names.length := by simp
  refine ⟨⟨hB, _, _, _, m, blk_grown hb g5 nB, hm, ?_, ⟨?_, st.1⟩, os.far g5 hap.symm, hap, hi1, hi2⟩, ?_⟩
  · exact of.far g5 (own_own_ne of.1.2 on.2.2 (by decide)) (fun y hy => own_own_ne (of.2.1 y hy).1 on.2.2 (by decide))
  · intro p hp
    rcases List.mem_or_eq_of_mem_set hp with q | q
    · exact on.1 p q
    · rw [q]
      have hm' : s.names.getD j ([], 0) ∈ s.names := by simp [List.getD, hj]
      have := on.1 _ hm'
      exact ⟨this.1, this.2.1, hid⟩
  · exact (Beside.refl base B w).grown g5 hbase (fun k hk => by injection hk with hk; rw [← hk]; exact .inl hgb.1)

set_option maxHeartbeats 2000000 in
set_option maxRecDepth 4000 in
theorem rename_any (s : St) (name tn : List Int) (hna : OctL name) (hto : OctL tn) (htl : tn.length ≤ 140737488355328) (base B : Nat) (w : World) (hS : OwnS w base B s) (hF : Fine s) (hbase : base ≤ w.heap.size) :
    Calls Try.prog 61 #[.pointer (some ⟨B, 0, none⟩), .string (strOfNums name), .string (strOfNums tn)] w fun e w' => e = .returned (.int .i64 (renameP s name tn).2) ∧ OwnS w' base B (renameP s name tn).1 ∧ Beside base B w w' := by
  obtain ⟨af, cf, an, cn, as', cs', m, hO⟩ := hS.open
  have HO : Hid (OpenS w base B s af cf an cn as' cs' m) := hO
  have q2 := blk_cell hO.2.1 2 _ rfl
  clear hO hS
  have hc := place_any s.names name hna _ w (NamesW.own HO.out.2.2.2.2.1) (by have := hF.2.1; omega) hF.2.2.2.1
  cases hth : thereN s.names name with
  | false =>
    have HR : Hid (renameP s name tn = (s, 71)) := by unfold Hid renameP; rw [hth]; rfl
    rw [hth] at hc
    clear hth
    go_enter Try.func61, Try.ntmps61
    go_wp2_with fail
    refine hc.mono ?_
    rintro e w1 ⟨rfl, u1⟩
    have HU : Hid (Below w.heap.size w w1) := u1
    clear u1 hc q2
    go_wp2_with fail
    go_ret
    rw [HR.out]
    exact ⟨rfl, (HO.out.up HU.out).shut, Below_beside HU.out hbase⟩
  | true =>
    have hlt := place_small hth
    have HT : Hid (thereN s.names name = true) := hth
    have hl2 := hF.2.1
    rw [hth] at hc
    clear hth
    have HI : Hid (idN s name = (s.names.getD (rankN s.names name) ([], 0)).2) := rfl
    obtain ⟨r, hr⟩ : ∃ r, r = rankN s.names name := ⟨_, rfl⟩
    have HRr : Hid (r = rankN s.names name) := hr
    rw [← hr] at hlt hc HI
    clear hr
    go_enter Try.func61, Try.ntmps61
    go_wp2_with fail
    refine hc.mono ?_
    rintro e w1 ⟨rfl, u1⟩
    have HO1 : Hid (OpenS w1 base B s af cf an cn as' cs' m) := HO.out.up u1
    have HU : Hid (Beside base B w w1) := Below_beside u1 hbase
    have hb1 : base ≤ w1.heap.size := Nat.le_trans hbase u1.size
    clear u1 hc q2 HO
    have hc1 := nameMay_any tn hto htl w1
    cases hmay : mayOf tn with
    | false =>
      have HR : Hid (renameP s name tn = (s, 31)) := by unfold Hid renameP; rw [if_pos HT.out, if_neg (by rw [hmay]; decide)]
      rw [hmay] at hc1
      clear hmay
      go_wp2_with fail
      refine hc1.mono ?_
      rintro e w2 ⟨rfl, u2⟩
      have HU2 : Hid (Below w1.heap.size w1 w2) := u2
      clear u2 hc1
      go_wp2_with fail
      go_ret
      rw [HR.out]
      exact ⟨rfl, (HO1.out.up HU2.out).shut, HU.out.trans (Below_beside HU2.out hb1)⟩
    | true =>
      have HM : Hid (mayOf tn = true) := hmay
      rw [hmay] at hc1
      clear hmay
      go_wp2_with fail
      refine hc1.mono ?_
      rintro e w2 ⟨rfl, u2⟩
      have HU2 : Hid (Beside base B w w2) := HU.out.trans (Below_beside u2 hb1)
      have hb2 : base ≤ w2.heap.size := Nat.le_trans hb1 u2.size
      have HO2 : Hid (OpenS w2 base B s af cf an cn as' cs' m) := HO1.out.up u2
      clear u2 hc1 HO1
      have heq := str_eq tn name hto hna
      by_cases hse : tn = name
      · have HR : Hid (renameP s name tn = (s, 0)) := by unfold Hid renameP; rw [if_pos HT.out, if_pos HM.out, if_pos hse]
        rw [decide_eq_true hse] at heq
        clear hse
        go_wp2_with fail
        go_ret
        rw [HR.out]
        exact ⟨rfl, HO2.out.shut, HU2.out⟩
      · have HR : Hid (renameP s name tn = (sweptOf { s with names := renamed (s.names.eraseIdx r) tn (idN s name) }, 0)) := by unfold Hid renameP; rw [if_pos HT.out, if_pos HM.out, if_neg hse, HRr.out]
        rw [decide_eq_false hse] at heq
        clear hse
        have q2 := blk_cell HO2.out.2.1 2 _ rfl
        obtain ⟨bn, offn, capn, en, _, _, d0, d1, _, _, hin⟩ := (NamesW.own HO2.out.2.2.2.2.1).at r hlt
        simp at en
        obtain ⟨rfl, rfl⟩ := en
        rw [← HI.out] at d1 hin
        have HIn : Hid (In64 (idN s name)) := hin
        have hrl : (r : Int) < (s.names.length : Int) := by omega
        generalize idN s name = id at *
        clear d0 hin HI
        go_upto_region 9 with fail
        clear d1 heq
        go_wp2_with fail
        refine (deleteN_any s.names _ r base w2 HO2.out.2.2.2.2.1 hlt hl2 hb2).mono ?_
        rintro e w3 ⟨v', rfl, on3, g3, hob⟩
        have hst := HO2.out.setNames hb2 g3 (.inl hob) on3
        obtain ⟨a4, c4, e4, _, _⟩ := (NamesW.own on3).len
        subst e4
        clear q2
        have q2 := blk_cell hst.1 2 _ rfl
        have f2 := blk_frozen hst.1 2
        have HS : Hid (OwnS (w3.setCell ⟨B, 2, none⟩ (.slice a4 (s.names.eraseIdx r).length c4)) base B { s with names := s.names.eraseIdx r } ∧ Beside base B w (w3.setCell ⟨B, 2, none⟩ (.slice a4 (s.names.eraseIdx r).length c4))) := ⟨hst.2.1, HU2.out.trans hst.2.2⟩
        clear hst g3 on3 hob
        have HRise : Hid (RiseN (s.names.eraseIdx r)) := hF.2.2.2.1.erase r hlt
        have hel : (s.names.eraseIdx r).length + 1 = s.names.length := by rw [List.length_eraseIdx, if_pos hlt]; omega
        obtain ⟨l1, hl1⟩ : ∃ l1, l1 = s.names.eraseIdx r := ⟨_, rfl⟩
        rw [← hl1] at HR HS HRise hel ⊢
        have hel2 : l1.length ≤ 255 := by omega
        clear hl1 hel
        obtain ⟨y, hy⟩ : ∃ y, y = w3.setCell ⟨B, 2, none⟩ (.slice a4 l1.length c4) := ⟨_, rfl⟩
        rw [← hy] at HS
        have HY : Hid (w3.setCell ⟨B, 2, none⟩ (.slice a4 l1.length c4) = y) := hy.symm
        clear hy
        go_upto_region 10 with fail
        rw [HY.out]
        clear HY q2 f2
        have hb4 : base ≤ y.heap.size := Nat.le_trans hbase HS.out.2.size
        obtain ⟨af4, cf4, an4, cn4, as4, cs4, m4, hO4⟩ := HS.out.1.open
        have HO4 : Hid (OpenS y base B { s with names := l1 } af4 cf4 an4 cn4 as4 cs4 m4) := hO4
        have q2 := blk_cell hO4.2.1 2 _ rfl
        have hc4 := place_any l1 tn hto _ y (NamesW.own hO4.2.2.2.2.1) (by omega) HRise.out
        simp only at q2 hc4
        clear hO4
        go_wp2_with fail
        refine hc4.mono ?_
        rintro e w4 ⟨rfl, u4⟩
        have HO5 : Hid (OpenS w4 base B { s with names := l1 } af4 cf4 an4 cn4 as4 cs4 m4) := HO4.out.up u4
        have HU5 : Hid (Beside base B w w4) := HS.out.2.trans (Below_beside u4 hb4)
        have hb5 : base ≤ w4.heap.size := Nat.le_trans hb4 u4.size
        clear u4 hc4 q2 HO4
        have hrk := rankOf_le (fun p => lessL p.1 tn) l1
        have HRk : Hid (rankN l1 tn ≤ l1.length) := hrk
        clear hrk
        cases hth : thereN l1 tn with
        | true =>
          have hjl := place_small hth
          have HRn : Hid (renamed l1 tn id = l1.set (rankN l1 tn) ((l1.getD (rankN l1 tn) ([], 0)).1, id)) := by unfold Hid renamed; rw [hth]; rfl
          rw [HRn.out] at HR
          clear hth HRn
          generalize rankN l1 tn = j at *
          have hshape : ∃ g, an4 = some ⟨g, 0, none⟩ := by
            rcases HO5.out.2.2.2.2.1.2.2.2 with ⟨e2, e3⟩ | ⟨g, cap', cur, e2, _⟩
            · rw [List.length_map] at e3
              simp only at e3
              omega
            · simp at e2
              exact ⟨g, e2.1⟩
          obtain ⟨g, rfl⟩ := hshape
          have st := HO5.out.setId hb5 j hjl id HIn.out
          have HS6 : Hid (OwnS (w4.setCell ⟨g, j * 2 + 1, none⟩ (.int .i64 id)) base B { s with names := l1.set j ((l1.getD j ([], 0)).1, id) } ∧ Beside base B w (w4.setCell ⟨g, j * 2 + 1, none⟩ (.int .i64 id))) := ⟨st.1, HU5.out.trans st.2⟩
          have q2 := blk_cell HO5.out.2.1 2 _ rfl
          obtain ⟨bn', offn', capn', en', _, _, d0, d1, _, _, _⟩ := (NamesW.own HO5.out.2.2.2.2.1).at j hjl
          simp at en'
          obtain ⟨⟨rfl, rfl⟩, rfl⟩ := en'
          rw [Nat.zero_add] at d1
          have fz : w4.frozen? ⟨g, j * 2 + 1, none⟩ = false := by
            obtain ⟨cur, hh, _⟩ := HO5.out.2.2.2.2.1.2.blk
            exact blk_frozen hh _
          have hjl' : (j : Int) < (l1.length : Int) := by omega
          simp only at q2 d1
          clear st d0
          go_wp2_with fail
          refine (sweep_any { s with names := l1.set j ((l1.getD j ([], 0)).1, id) } base B _ HS6.out.1 hF.1 (by simp only [List.length_set]; omega) hF.2.2.1 (Nat.le_trans hbase HS6.out.2.size)).mono ?_
          rintro e w6 ⟨rfl, hs6, hb6⟩
          have HS7 : Hid (OwnS w6 base B (sweptOf { s with names := l1.set j ((l1.getD j ([], 0)).1, id) }) ∧ Beside base B w w6) := ⟨hs6, HS6.out.2.trans hb6⟩
          clear hs6 hb6 q2 d1 fz
          go_wp2_with fail
          go_ret
          rw [HR.out]
          exact ⟨rfl, HS7.out⟩
        | false =>
          have HRn : Hid (renamed l1 tn id = insN l1 (rankN l1 tn) (tn, id)) := by unfold Hid renamed; rw [hth]; rfl
          rw [HRn.out] at HR
          clear hth HRn
          generalize rankN l1 tn = j at *
          have q2 := blk_cell HO5.out.2.1 2 _ rfl
          simp only at q2
          have HC : Hid (∀ VB X, Below w4.heap.size w4 X → X.heap[VB]? = some (.cells #[.string (strOfNums tn), .int .i64 id] 73) → w4.heap.size ≤ VB → Calls Try.prog 71 #[.slice an4 l1.length cn4, .int .i64 j, .slice (some ⟨VB, 0, none⟩) 1 1] X fun e w' => ∃ a6 c6, e = .returned (.slice a6 (l1.length + 1) c6) ∧ w'.cell? ⟨B, 2, none⟩ = some (.slice an4 l1.length cn4) ∧ w'.frozen? ⟨B, 2, none⟩ = false ∧
              Hid (OwnS (w'.setCell ⟨B, 2, none⟩ (.slice a6 (l1.length + 1) c6)) base B { s with names := insN l1 j (tn, id) } ∧ Beside base B w (w'.setCell ⟨B, 2, none⟩ (.slice a6 (l1.length + 1) c6)))) := by
            intro VB X hWx hblk hVB
            have oX := HO5.out.up hWx
            have hbX : base ≤ X.heap.size := Nat.le_trans hb5 hWx.size
            refine (insertN_any l1 _ j (tn, id) VB base _ oX.2.2.2.2.1 ⟨hto, htl, HIn.out⟩ hblk ?_ (by omega) HRk.out hbX).mono ?_
            · intro q
              have := (HO5.out.2.2.2.2.1.2.2.lt _ q).2
              omega
            · rintro e w' ⟨v', rfl, on', g', near'⟩
              obtain ⟨a6, c6, e6, _, _⟩ := (NamesW.own on').len
              rw [insN_len l1 j _ HRk.out] at e6
              subst e6
              have st := oX.setNames hbX g' near' on'
              exact ⟨a6, c6, rfl, blk_cell st.1 2 _ rfl, blk_frozen st.1 2, st.2.1, (HU5.out.trans (Below_beside hWx hb5)).trans st.2.2⟩
          go_wp2_with fail
          refine (HC.out _ _ (up_al (Below.refl _ _) _) (blk_new w4 _) (Nat.le_refl _)).mono ?_
          rintro e w6 ⟨a6, c6, rfl, z2, zf, hs⟩
          clear q2
          go_wp2_with fail
          refine (sweep_any { s with names := insN l1 j (tn, id) } base B _ hs.out.1 hF.1 (by simp only; rw [insN_len l1 j _ HRk.out]; omega) hF.2.2.1 (Nat.le_trans hbase hs.out.2.size)).mono ?_
          rintro e w7 ⟨rfl, hs7, hb7⟩
          have HS7 : Hid (OwnS w7 base B (sweptOf { s with names := insN l1 j (tn, id) }) ∧ Beside base B w w7) := ⟨hs7, hs.out.2.trans hb7⟩
          clear hs7 hb7 z2 zf
          go_wp2_with fail
          go_ret
          rw [HR.out]
          exact ⟨rfl, HS7.out⟩
end Go.Proofs.Ytoceddpjkodfkaa
