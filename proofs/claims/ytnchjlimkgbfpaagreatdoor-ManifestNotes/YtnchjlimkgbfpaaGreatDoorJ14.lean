/- The texts QC, QD, M1, M2, in this order. -/
import Derived.Test.YtnchjlimkgbfpaaGreatDoorJ13

namespace Go.Proofs.YtnchjlimkgbfpaaGreatDoor
open Go.RowKit
set_option linter.unusedVariables false
set_option maxRecDepth 20000
set_option linter.unusedSimpArgs false
def renamed (l : List (List Int × Int)) (tn : List Int) (id : Int) : List (List Int × Int) :=
  if thereN l tn then l.set (rankN l tn) ((l.getD (rankN l tn) ([], 0)).1, id) else insN l (rankN l tn) (tn, id)
def renameP (s : St) (name tn : List Int) : St × Int :=
  if thereN s.names name then
    if mayOf tn then
      if tn = name then (s, 0) else (sweptOf { s with names := renamed (s.names.eraseIdx (rankN s.names name)) tn (idN s name) }, 0)
    else (s, 31)
  else (s, 71)
theorem getD_erase (l : List (List Int × Int)) (r k : Nat) (d : List Int × Int) : (l.eraseIdx r).getD k d = if k < r then l.getD k d else l.getD (k + 1) d := by
  simp only [List.getD, List.getElem?_eraseIdx]
  split <;> rfl
theorem RiseN.erase {l : List (List Int × Int)} (h : RiseN l) (r : Nat) (hr : r < l.length) : RiseN (l.eraseIdx r) := by
  intro a b hab hb
  have hlen : (l.eraseIdx r).length = l.length - 1 := by rw [List.length_eraseIdx, if_pos hr]
  rw [getD_erase, getD_erase]
  split <;> split
  · exact h _ _ hab (by omega)
  · exact h _ _ (by omega) (by omega)
  · omega
  · exact h _ _ (by omega) (by omega)
theorem OpenS.setId {w : World} {base B : Nat} {s : St} {af : Option Addr} {cf g cn : Nat} {as' : Option Addr} {cs' : Nat} {m : List FRow} (h : OpenS w base B s af cf (some ⟨g, 0, none⟩) cn as' cs' m) (hbase : base ≤ w.heap.size) (j : Nat) (hj : j < s.names.length) (id : Int) (hid : In64 id) :
    OwnS (w.setCell ⟨g, j * 2 + 1, none⟩ (.int .i64 id)) base B { s with names := s.names.set j ((s.names.getD j ([], 0)).1, id) } ∧ Beside base B w (w.setCell ⟨g, j * 2 + 1, none⟩ (.int .i64 id)) := by
  obtain ⟨hB, hb, hm, of, on, os, hap, hi1, hi2⟩ := h
  have st := OwnR.set on.2 (by rw [List.length_map]) j hj 1 (by decide) (.int .i64 id)
  have hrow : ((s.names.map nrow).getD j []).set 1 (.int .i64 id) = nrow ((s.names.getD j ([], 0)).1, id) := by simp [List.getD, hj, nrow]
  rw [hrow, ← List.map_set] at st
  have hgb := on.2.2.lt g rfl
  have nB : some B ≠ some g := by
    have := own_blk_ne on.2.2 hb (by decide)
    simp [Value.ownBlock] at this
    intro q
    injection q with q
    exact this q.symm
  have g5 := st.2.1
  have hlen : (s.names.set j ((s.names.getD j ([], 0)).1, id)).length = s.names.length := by simp
  refine ⟨⟨hB, _, _, _, m, blk_grown hb g5 nB, hm, ?_, ⟨?_, st.1⟩, os.far g5 hap.symm, hap, hi1, hi2⟩, ?_⟩
  · exact of.far g5 (own_own_ne of.1.2 on.2.2 (by decide)) (fun y hy => own_own_ne (of.2.1 y hy).1 on.2.2 (by decide))
  · intro p hp
    rcases List.mem_or_eq_of_mem_set hp with q | q
    · exact on.1 p q
    · rw [q]
      have hm' : s.names.getD j ([], 0) ∈ s.names := by simp [List.getD, hj]
      have := on.1 _ hm'
      exact ⟨this.1, this.2.1, hid⟩
  · exact (Beside.refl base B w).grown g5 hbase (fun k hk => by injection hk with hk; rw [← hk]; exact .inl hgb.1)
set_option maxHeartbeats 2000000 in
set_option maxRecDepth 20000 in
theorem rename_any (s : St) (name tn : List Int) (hna : OctL name) (hto : OctL tn) (htl : tn.length ≤ 140737488355328) (base B : Nat) (w : World) (hS : OwnS w base B s) (hF : Fine s) (hbase : base ≤ w.heap.size) :
    Calls Tryz.prog 145 #[.pointer (some ⟨B, 0, none⟩), .string (strOfNums name), .string (strOfNums tn)] w fun e w' => e = .returned (.int .i64 (renameP s name tn).2) ∧ OwnS w' base B (renameP s name tn).1 ∧ Beside base B w w' := by
  obtain ⟨af, cf, an, cn, as', cs', m, hO⟩ := hS.open
  have HO : Hid (OpenS w base B s af cf an cn as' cs' m) := hO
  have q2 := blk_cell hO.2.1 2 _ rfl
  clear hO hS
  have hc := place_any s.names name hna _ w (NamesW.own HO.out.2.2.2.2.1) (by have := hF.2.1; omega) hF.2.2.2.1
  cases hth : thereN s.names name with
  | false =>
    have HR : Hid (renameP s name tn = (s, 71)) := by unfold Hid renameP; rw [hth]; rfl
    rw [hth] at hc
    clear hth
    go_enter Tryz.func145, Tryz.ntmps145
    go_wp2_with fail
    refine hc.mono ?_
    rintro e w1 ⟨rfl, u1⟩
    have HU : Hid (Below w.heap.size w w1) := u1
    clear u1 hc q2
    go_wp2_with fail
    go_ret
    rw [HR.out]
    exact ⟨rfl, (HO.out.up HU.out).shut, Below_beside HU.out hbase⟩
  | true =>
    have hlt := place_small hth
    have HT : Hid (thereN s.names name = true) := hth
    have hl2 := hF.2.1
    rw [hth] at hc
    clear hth
    have HI : Hid (idN s name = (s.names.getD (rankN s.names name) ([], 0)).2) := rfl
    obtain ⟨r, hr⟩ : ∃ r, r = rankN s.names name := ⟨_, rfl⟩
    have HRr : Hid (r = rankN s.names name) := hr
    rw [← hr] at hlt hc HI
    clear hr
    go_enter Tryz.func145, Tryz.ntmps145
    go_wp2_with fail
    refine hc.mono ?_
    rintro e w1 ⟨rfl, u1⟩
    have HO1 : Hid (OpenS w1 base B s af cf an cn as' cs' m) := HO.out.up u1
    have HU : Hid (Beside base B w w1) := Below_beside u1 hbase
    have hb1 : base ≤ w1.heap.size := Nat.le_trans hbase u1.size
    clear u1 hc q2 HO
    have hc1 := nameMay_any tn hto htl w1
    cases hmay : mayOf tn with
    | false =>
      have HR : Hid (renameP s name tn = (s, 31)) := by unfold Hid renameP; rw [if_pos HT.out, if_neg (by rw [hmay]; decide)]
      rw [hmay] at hc1
      clear hmay
      go_wp2_with fail
      refine hc1.mono ?_
      rintro e w2 ⟨rfl, u2⟩
      have HU2 : Hid (Below w1.heap.size w1 w2) := u2
      clear u2 hc1
      go_wp2_with fail
      go_ret
      rw [HR.out]
      exact ⟨rfl, (HO1.out.up HU2.out).shut, HU.out.trans (Below_beside HU2.out hb1)⟩
    | true =>
      have HM : Hid (mayOf tn = true) := hmay
      rw [hmay] at hc1
      clear hmay
      go_wp2_with fail
      refine hc1.mono ?_
      rintro e w2 ⟨rfl, u2⟩
      have HU2 : Hid (Beside base B w w2) := HU.out.trans (Below_beside u2 hb1)
      have hb2 : base ≤ w2.heap.size := Nat.le_trans hb1 u2.size
      have HO2 : Hid (OpenS w2 base B s af cf an cn as' cs' m) := HO1.out.up u2
      clear u2 hc1 HO1
      have heq := str_eq tn name hto hna
      by_cases hse : tn = name
      · have HR : Hid (renameP s name tn = (s, 0)) := by unfold Hid renameP; rw [if_pos HT.out, if_pos HM.out, if_pos hse]
        rw [decide_eq_true hse] at heq
        clear hse
        go_wp2_with fail
        go_ret
        rw [HR.out]
        exact ⟨rfl, HO2.out.shut, HU2.out⟩
      · have HR : Hid (renameP s name tn = (sweptOf { s with names := renamed (s.names.eraseIdx r) tn (idN s name) }, 0)) := by unfold Hid renameP; rw [if_pos HT.out, if_pos HM.out, if_neg hse, HRr.out]
        rw [decide_eq_false hse] at heq
        clear hse
        have q2 := blk_cell HO2.out.2.1 2 _ rfl
        obtain ⟨bn, offn, capn, en, _, _, d0, d1, _, _, hin⟩ := (NamesW.own HO2.out.2.2.2.2.1).at r hlt
        simp at en
        obtain ⟨rfl, rfl⟩ := en
        rw [← HI.out] at d1 hin
        have HIn : Hid (In64 (idN s name)) := hin
        have hrl : (r : Int) < (s.names.length : Int) := by omega
        generalize idN s name = id at *
        clear d0 hin HI
        go_upto_region 9 with fail
        clear d1 heq
        go_wp2_with fail
        refine (deleteN_any s.names _ r base w2 HO2.out.2.2.2.2.1 hlt hl2 hb2).mono ?_
        rintro e w3 ⟨v', rfl, on3, g3, hob⟩
        have hst := HO2.out.setNames hb2 g3 (.inl hob) on3
        obtain ⟨a4, c4, e4, _, _⟩ := (NamesW.own on3).len
        subst e4
        clear q2
        have q2 := blk_cell hst.1 2 _ rfl
        have f2 := blk_frozen hst.1 2
        have HS : Hid (OwnS (w3.setCell ⟨B, 2, none⟩ (.slice a4 (s.names.eraseIdx r).length c4)) base B { s with names := s.names.eraseIdx r } ∧ Beside base B w (w3.setCell ⟨B, 2, none⟩ (.slice a4 (s.names.eraseIdx r).length c4))) := ⟨hst.2.1, HU2.out.trans hst.2.2⟩
        clear hst g3 on3 hob
        have HRise : Hid (RiseN (s.names.eraseIdx r)) := hF.2.2.2.1.erase r hlt
        have hel : (s.names.eraseIdx r).length + 1 = s.names.length := by rw [List.length_eraseIdx, if_pos hlt]; omega
        obtain ⟨l1, hl1⟩ : ∃ l1, l1 = s.names.eraseIdx r := ⟨_, rfl⟩
        rw [← hl1] at HR HS HRise hel ⊢
        have hel2 : l1.length ≤ 255 := by omega
        clear hl1 hel
        obtain ⟨y, hy⟩ : ∃ y, y = w3.setCell ⟨B, 2, none⟩ (.slice a4 l1.length c4) := ⟨_, rfl⟩
        rw [← hy] at HS
        have HY : Hid (w3.setCell ⟨B, 2, none⟩ (.slice a4 l1.length c4) = y) := hy.symm
        clear hy
        go_upto_region 10 with fail
        rw [HY.out]
        clear HY q2 f2
        have hb4 : base ≤ y.heap.size := Nat.le_trans hbase HS.out.2.size
        obtain ⟨af4, cf4, an4, cn4, as4, cs4, m4, hO4⟩ := HS.out.1.open
        have HO4 : Hid (OpenS y base B { s with names := l1 } af4 cf4 an4 cn4 as4 cs4 m4) := hO4
        have q2 := blk_cell hO4.2.1 2 _ rfl
        have hc4 := place_any l1 tn hto _ y (NamesW.own hO4.2.2.2.2.1) (by omega) HRise.out
        simp only at q2 hc4
        clear hO4
        go_wp2_with fail
        refine hc4.mono ?_
        rintro e w4 ⟨rfl, u4⟩
        have HO5 : Hid (OpenS w4 base B { s with names := l1 } af4 cf4 an4 cn4 as4 cs4 m4) := HO4.out.up u4
        have HU5 : Hid (Beside base B w w4) := HS.out.2.trans (Below_beside u4 hb4)
        have hb5 : base ≤ w4.heap.size := Nat.le_trans hb4 u4.size
        clear u4 hc4 q2 HO4
        have hrk := rankOf_le (fun p => lessL p.1 tn) l1
        have HRk : Hid (rankN l1 tn ≤ l1.length) := hrk
        clear hrk
        cases hth : thereN l1 tn with
        | true =>
          have hjl := place_small hth
          have HRn : Hid (renamed l1 tn id = l1.set (rankN l1 tn) ((l1.getD (rankN l1 tn) ([], 0)).1, id)) := by unfold Hid renamed; rw [hth]; rfl
          rw [HRn.out] at HR
          clear hth HRn
          generalize rankN l1 tn = j at *
          have hshape : ∃ g, an4 = some ⟨g, 0, none⟩ := by
            rcases HO5.out.2.2.2.2.1.2.2.2 with ⟨e2, e3⟩ | ⟨g, cap', cur, e2, _⟩
            · rw [List.length_map] at e3
              simp only at e3
              omega
            · simp at e2
              exact ⟨g, e2.1⟩
          obtain ⟨g, rfl⟩ := hshape
          have st := HO5.out.setId hb5 j hjl id HIn.out
          have HS6 : Hid (OwnS (w4.setCell ⟨g, j * 2 + 1, none⟩ (.int .i64 id)) base B { s with names := l1.set j ((l1.getD j ([], 0)).1, id) } ∧ Beside base B w (w4.setCell ⟨g, j * 2 + 1, none⟩ (.int .i64 id))) := ⟨st.1, HU5.out.trans st.2⟩
          have q2 := blk_cell HO5.out.2.1 2 _ rfl
          obtain ⟨bn', offn', capn', en', _, _, d0, d1, _, _, _⟩ := (NamesW.own HO5.out.2.2.2.2.1).at j hjl
          simp at en'
          obtain ⟨⟨rfl, rfl⟩, rfl⟩ := en'
          rw [Nat.zero_add] at d1
          have fz : w4.frozen? ⟨g, j * 2 + 1, none⟩ = false := by
            obtain ⟨cur, hh, _⟩ := HO5.out.2.2.2.2.1.2.blk
            exact blk_frozen hh _
          have hjl' : (j : Int) < (l1.length : Int) := by omega
          simp only at q2 d1
          clear st d0
          go_wp2_with fail
          refine (sweep_any { s with names := l1.set j ((l1.getD j ([], 0)).1, id) } base B _ HS6.out.1 hF.1 (by simp only [List.length_set]; omega) hF.2.2.1 (Nat.le_trans hbase HS6.out.2.size)).mono ?_
          rintro e w6 ⟨rfl, hs6, hb6⟩
          have HS7 : Hid (OwnS w6 base B (sweptOf { s with names := l1.set j ((l1.getD j ([], 0)).1, id) }) ∧ Beside base B w w6) := ⟨hs6, HS6.out.2.trans hb6⟩
          clear hs6 hb6 q2 d1 fz
          go_wp2_with fail
          go_ret
          rw [HR.out]
          exact ⟨rfl, HS7.out⟩
        | false =>
          have HRn : Hid (renamed l1 tn id = insN l1 (rankN l1 tn) (tn, id)) := by unfold Hid renamed; rw [hth]; rfl
          rw [HRn.out] at HR
          clear hth HRn
          generalize rankN l1 tn = j at *
          have q2 := blk_cell HO5.out.2.1 2 _ rfl
          simp only at q2
          have HC : Hid (∀ VB X, Below w4.heap.size w4 X → X.heap[VB]? = some (.cells #[.string (strOfNums tn), .int .i64 id] 146) → w4.heap.size ≤ VB → Calls Tryz.prog 177 #[.slice an4 l1.length cn4, .int .i64 j, .slice (some ⟨VB, 0, none⟩) 1 1] X fun e w' => ∃ a6 c6, e = .returned (.slice a6 (l1.length + 1) c6) ∧ w'.cell? ⟨B, 2, none⟩ = some (.slice an4 l1.length cn4) ∧ w'.frozen? ⟨B, 2, none⟩ = false ∧
              Hid (OwnS (w'.setCell ⟨B, 2, none⟩ (.slice a6 (l1.length + 1) c6)) base B { s with names := insN l1 j (tn, id) } ∧ Beside base B w (w'.setCell ⟨B, 2, none⟩ (.slice a6 (l1.length + 1) c6)))) := by
            intro VB X hWx hblk hVB
            have oX := HO5.out.up hWx
            have hbX : base ≤ X.heap.size := Nat.le_trans hb5 hWx.size
            refine (insertN_any l1 _ j (tn, id) VB base _ oX.2.2.2.2.1 ⟨hto, htl, HIn.out⟩ hblk ?_ (by omega) HRk.out hbX).mono ?_
            · intro q
              have := (HO5.out.2.2.2.2.1.2.2.lt _ q).2
              omega
            · rintro e w' ⟨v', rfl, on', g', near'⟩
              obtain ⟨a6, c6, e6, _, _⟩ := (NamesW.own on').len
              rw [insN_len l1 j _ HRk.out] at e6
              subst e6
              have st := oX.setNames hbX g' near' on'
              exact ⟨a6, c6, rfl, blk_cell st.1 2 _ rfl, blk_frozen st.1 2, st.2.1, (HU5.out.trans (Below_beside hWx hb5)).trans st.2.2⟩
          go_wp2_with fail
          refine (HC.out _ _ (up_al (Below.refl _ _) _) (blk_new w4 _) (Nat.le_refl _)).mono ?_
          rintro e w6 ⟨a6, c6, rfl, z2, zf, hs⟩
          clear q2
          go_wp2_with fail
          refine (sweep_any { s with names := insN l1 j (tn, id) } base B _ hs.out.1 hF.1 (by simp only; rw [insN_len l1 j _ HRk.out]; omega) hF.2.2.1 (Nat.le_trans hbase hs.out.2.size)).mono ?_
          rintro e w7 ⟨rfl, hs7, hb7⟩
          have HS7 : Hid (OwnS w7 base B (sweptOf { s with names := insN l1 j (tn, id) }) ∧ Beside base B w w7) := ⟨hs7, hs.out.2.trans hb7⟩
          clear hs7 hb7 z2 zf
          go_wp2_with fail
          go_ret
          rw [HR.out]
          exact ⟨rfl, HS7.out⟩
end Go.Proofs.YtnchjlimkgbfpaaGreatDoor

namespace Go.Proofs.YtnchjlimkgbfpaaGreatDoor
open Go.RowKit
set_option linter.unusedVariables false
set_option maxRecDepth 20000
set_option linter.unusedSimpArgs false
structure Ac where
  what : Int
  name : List Int
  dest : List Int
  data : List Int
def okAc (a : Ac) : Prop := In64 a.what ∧ OctL a.name ∧ a.name.length ≤ 140737488355328 ∧ OctL a.dest ∧ a.dest.length ≤ 140737488355328 ∧ a.data.length ≤ 140737488355328
def AcW (w : World) (v : Value) (a : Ac) : Prop := ∃ vd, v = .agg #[.int .i64 a.what, .string (strOfNums a.name), .string (strOfNums a.dest), vd] ∧ Octs w vd a.data ∧ okAc a
theorem AcW.up {w w' : World} {v : Value} {a : Ac} (h : AcW w v a) (hb : Below w.heap.size w w') : AcW w' v a := by
  obtain ⟨vd, e, h1, h2⟩ := h
  exact ⟨vd, e, h1.up hb, h2⟩
def actP (s : St) (a : Ac) : St × Int :=
  if a.what = 1 then createP s a.name else if a.what = 2 then extendP s a.name a.data else if a.what = 3 then syncP s a.name else
  if a.what = 4 then renameP s a.name a.dest else if a.what = 5 then removeP s a.name else if a.what = 6 then (syncNamesP s, 0) else (s, 22)
def Sound (s : St) : Prop := Fine s ∧ (0 ≤ s.cap ∧ s.cap ≤ 16777216) ∧ (1 ≤ s.next ∧ s.next ≤ 2147483647)
set_option maxHeartbeats 2000000 in
theorem act_any (s : St) (a : Ac) (v : Value) (base B : Nat) (w : World) (hS : OwnS w base B s) (hF : Sound s) (ha : AcW w v a) (hbase : base ≤ w.heap.size) :
    Calls Tryz.prog 104 #[.pointer (some ⟨B, 0, none⟩), v] w fun e w' => e = .returned (.int .i64 (actP s a).2) ∧ OwnS w' base B (actP s a).1 ∧ Beside base B w w' := by
  obtain ⟨vd, rfl, hd, hok⟩ := ha
  obtain ⟨ad, cd, evd, _⟩ := hd.slice
  subst evd
  obtain ⟨wx, hwx⟩ : ∃ wx, wx = w.alloc (.cells #[.int .i64 a.what, .string (strOfNums a.name), .string (strOfNums a.dest), .slice ad a.data.length cd] 94) := ⟨_, rfl⟩
  have bx := blk_new w (.cells #[.int .i64 a.what, .string (strOfNums a.name), .string (strOfNums a.dest), .slice ad a.data.length cd] 94)
  rw [← hwx] at bx
  have ux : Below w.heap.size w wx := by rw [hwx]; exact up_al (Below.refl _ _) _
  have HX : Hid (w.alloc (.cells #[.int .i64 a.what, .string (strOfNums a.name), .string (strOfNums a.dest), .slice ad a.data.length cd] 94) = wx) := hwx.symm
  have HS : Hid (OwnS wx base B s ∧ Octs wx (.slice ad a.data.length cd) a.data ∧ okAc a ∧ Sound s ∧ Beside base B w wx) := ⟨hS.up ux, hd.up ux, hok, hF, Below_beside ux hbase⟩
  have hbx : base ≤ wx.heap.size := Nat.le_trans hbase ux.size
  have q0 := blk_cell bx 0 _ rfl
  have q1 := blk_cell bx 1 _ rfl
  have q2 := blk_cell bx 2 _ rfl
  have q3 := blk_cell bx 3 _ rfl
  have fin : ∀ (r : St × Int), actP s a = r → ∀ e w', (e = Ending.returned (.int .i64 r.2) ∧ OwnS w' base B r.1 ∧ Beside base B wx w') → Hid (OwnS w' base B (actP s a).1 ∧ Beside base B w w') := by
    intro r hr e w' h
    rw [hr]
    exact ⟨h.2.1, HS.out.2.2.2.2.trans h.2.2⟩
  have HFin : Hid (∀ (r : St × Int), actP s a = r → ∀ e w', (e = Ending.returned (.int .i64 r.2) ∧ OwnS w' base B r.1 ∧ Beside base B wx w') → Hid (OwnS w' base B (actP s a).1 ∧ Beside base B w w')) := fin
  clear hS hF hd hok hwx bx ux fin
  go_enter Tryz.func104, Tryz.ntmps104
  go_upto_region 1 with fail
  rw [HX.out]
  clear HX
  by_cases c1 : a.what = 1
  · have HA : Hid (actP s a = createP s a.name) := by unfold Hid actP; rw [if_pos c1]
    go_wp2_with fail
    refine (create_any s a.name HS.out.2.2.1.2.1 HS.out.2.2.1.2.2.1 base B wx HS.out.1 HS.out.2.2.2.1.1 HS.out.2.2.2.1.2.2 hbx).mono ?_
    rintro e w1 h1
    have H2 := HFin.out _ HA.out e w1 h1
    obtain ⟨rfl, _⟩ := h1
    rw [← HA.out]
    clear q0 q1 q2 q3
    go_wp2_with fail
    go_ret
    exact ⟨rfl, H2.out⟩
  · have d1 : (a.what == 1) = false := by rw [beq_eq_false_iff_ne]; exact c1
    by_cases c2 : a.what = 2
    · have HA : Hid (actP s a = extendP s a.name a.data) := by unfold Hid actP; rw [if_neg c1, if_pos c2]
      clear c1 d1
      go_wp2_with fail
      refine (extend_anyG s a.name a.data HS.out.2.2.1.2.1 _ base B wx HS.out.1 HS.out.2.2.2.1.1 HS.out.2.1 HS.out.2.2.2.1.2.1 hbx).mono ?_
      rintro e w1 h1
      have H2 := HFin.out _ HA.out e w1 h1
      obtain ⟨rfl, _⟩ := h1
      rw [← HA.out]
      clear q0 q1 q2 q3
      go_wp2_with fail
      go_ret
      exact ⟨rfl, H2.out⟩
    · have d2 : (a.what == 2) = false := by rw [beq_eq_false_iff_ne]; exact c2
      by_cases c3 : a.what = 3
      · have HA : Hid (actP s a = syncP s a.name) := by unfold Hid actP; rw [if_neg c1, if_neg c2, if_pos c3]
        clear c1 d1 c2 d2
        go_wp2_with fail
        refine (syncFile_any s a.name HS.out.2.2.1.2.1 base B wx HS.out.1 HS.out.2.2.2.1.1 hbx).mono ?_
        rintro e w1 h1
        have H2 := HFin.out _ HA.out e w1 h1
        obtain ⟨rfl, _⟩ := h1
        rw [← HA.out]
        clear q0 q1 q2 q3
        go_wp2_with fail
        go_ret
        exact ⟨rfl, H2.out⟩
      · have d3 : (a.what == 3) = false := by rw [beq_eq_false_iff_ne]; exact c3
        by_cases c4 : a.what = 4
        · have HA : Hid (actP s a = renameP s a.name a.dest) := by unfold Hid actP; rw [if_neg c1, if_neg c2, if_neg c3, if_pos c4]
          clear c1 d1 c2 d2 c3 d3
          go_wp2_with fail
          refine (rename_any s a.name a.dest HS.out.2.2.1.2.1 HS.out.2.2.1.2.2.2.1 HS.out.2.2.1.2.2.2.2.1 base B wx HS.out.1 HS.out.2.2.2.1.1 hbx).mono ?_
          rintro e w1 h1
          have H2 := HFin.out _ HA.out e w1 h1
          obtain ⟨rfl, _⟩ := h1
          rw [← HA.out]
          clear q0 q1 q2 q3
          go_wp2_with fail
          go_ret
          exact ⟨rfl, H2.out⟩
        · have d4 : (a.what == 4) = false := by rw [beq_eq_false_iff_ne]; exact c4
          by_cases c5 : a.what = 5
          · have HA : Hid (actP s a = removeP s a.name) := by unfold Hid actP; rw [if_neg c1, if_neg c2, if_neg c3, if_neg c4, if_pos c5]
            clear c1 d1 c2 d2 c3 d3 c4 d4
            go_wp2_with fail
            refine (remove_any s a.name HS.out.2.2.1.2.1 base B wx HS.out.1 HS.out.2.2.2.1.1 hbx).mono ?_
            rintro e w1 h1
            have H2 := HFin.out _ HA.out e w1 h1
            obtain ⟨rfl, _⟩ := h1
            rw [← HA.out]
            clear q0 q1 q2 q3
            go_wp2_with fail
            go_ret
            exact ⟨rfl, H2.out⟩
          · have d5 : (a.what == 5) = false := by rw [beq_eq_false_iff_ne]; exact c5
            by_cases c6 : a.what = 6
            · have HA : Hid (actP s a = (syncNamesP s, 0)) := by unfold Hid actP; rw [if_neg c1, if_neg c2, if_neg c3, if_neg c4, if_neg c5, if_pos c6]
              have HA2 : Hid ((actP s a).2 = 0) := by unfold Hid; rw [HA.out]
              clear c1 d1 c2 d2 c3 d3 c4 d4 c5 d5
              go_wp2_with fail
              refine (syncNames_any s base B wx HS.out.1 HS.out.2.2.2.1.1 hbx).mono ?_
              rintro e w1 h1
              have H2 := HFin.out _ HA.out e w1 h1
              obtain ⟨rfl, _⟩ := h1
              clear q0 q1 q2 q3
              go_wp2_with fail
              go_ret
              rw [HA2.out]
              exact ⟨rfl, H2.out⟩
            · have d6 : (a.what == 6) = false := by rw [beq_eq_false_iff_ne]; exact c6
              have HA : Hid (actP s a = (s, 22)) := by unfold Hid actP; rw [if_neg c1, if_neg c2, if_neg c3, if_neg c4, if_neg c5, if_neg c6]
              go_wp2_with fail
              go_ret
              rw [HA.out]
              exact ⟨rfl, HS.out.1, HS.out.2.2.2.2⟩
end Go.Proofs.YtnchjlimkgbfpaaGreatDoor

namespace Go.Proofs.YtnchjlimkgbfpaaGreatDoor
open Go.RowKit
set_option linter.unusedVariables false
set_option maxRecDepth 20000
theorem nodup_le : ∀ (l k : List Int), l.Nodup → (∀ x ∈ l, x ∈ k) → l.length ≤ k.length
  | [], k, _, _ => by simp
  | x :: l, k, hn, hs => by
    have hx : x ∈ k := hs x (by simp)
    rw [List.nodup_cons] at hn
    have h1 : ∀ y ∈ l, y ∈ k.erase x := by
      intro y hy
      have hne : y ≠ x := fun e => hn.1 (e ▸ hy)
      exact (List.mem_erase_of_ne hne).2 (hs y (by simp [hy]))
    have := nodup_le l (k.erase x) hn.2 h1
    rw [List.length_erase_of_mem hx] at this
    have hp : 0 < k.length := List.length_pos_of_mem hx
    simp only [List.length_cons]
    omega
theorem addId_nodup {ids : List Int} (h : ids.Nodup) (x : Int) : (addId ids x).Nodup := by
  unfold addId
  split
  · exact h
  · rename_i hc
    rw [List.nodup_append]
    refine ⟨h, by simp, ?_⟩
    intro a ha b hb
    simp at hb
    subst hb
    intro e
    subst e
    simp at hc
    exact hc ha
theorem idsOf_nodup (l : List (List Int × Int)) : (idsOf l).Nodup := by
  unfold idsOf
  have h : ∀ (m acc : List Int), acc.Nodup → (m.foldl addId acc).Nodup := by
    intro m
    induction m with
    | nil => intro acc h; exact h
    | cons x m ih => intro acc h; exact ih _ (addId_nodup h x)
  exact h _ _ (by simp)
theorem mem_idsOf (l : List (List Int × Int)) (x : Int) : x ∈ idsOf l ↔ ∃ p ∈ l, p.2 = x := by
  have h := idsOf_mem l x
  constructor
  · intro hx
    have : (idsOf l).contains x = true := by simpa using hx
    rw [h] at this
    unfold standsOf at this
    rw [List.any_eq_true] at this
    obtain ⟨p, hp, e⟩ := this
    exact ⟨p, hp, by simpa using e⟩
  · rintro ⟨p, hp, rfl⟩
    have : standsOf l p.2 = true := by
      unfold standsOf
      rw [List.any_eq_true]
      exact ⟨p, hp, by simp⟩
    rw [← h] at this
    simpa using this
theorem thereF_mem {fs : List (Int × List Int × Int)} {id : Int} (h : thereF fs id = true) : id ∈ fs.map (·.1) := by
  unfold thereF at h
  simp only [Bool.and_eq_true, decide_eq_true_eq] at h
  rw [List.mem_map]
  refine ⟨fs.getD (rankF fs id) (0, [], 0), ?_, h.2⟩
  simp [List.getD, h.1]
theorem names_ok {fs : List (Int × List Int × Int)} {l : List (List Int × Int)} (h : namesMayOf fs l = true) : (∀ k, k < l.length → okNameP fs l k = true) ∧ (idsOf l).length = l.length := by
  unfold namesMayOf at h
  rw [Bool.and_eq_true, decide_eq_true_eq] at h
  exact ⟨all_range_get h.1, h.2⟩
theorem names_there {fs : List (Int × List Int × Int)} {l : List (List Int × Int)} (h : namesMayOf fs l = true) : ∀ p ∈ l, thereF fs p.2 = true := by
  intro p hp
  obtain ⟨k, hk, rfl⟩ := List.getElem_of_mem hp
  have := (names_ok h).1 k hk
  unfold okNameP nameAt at this
  simp only [Bool.and_eq_true] at this
  have e : l.getD k ([], 0) = l[k] := by simp [List.getD, hk]
  rw [e] at this
  exact this.2
theorem names_len {fs : List (Int × List Int × Int)} {l : List (List Int × Int)} (h : namesMayOf fs l = true) : l.length ≤ fs.length := by
  rw [← (names_ok h).2]
  have := nodup_le (idsOf l) (fs.map (·.1)) (idsOf_nodup l) (by
    intro x hx
    obtain ⟨p, hp, rfl⟩ := (mem_idsOf l x).1 hx
    exact thereF_mem (names_there h p hp))
  simpa using this
theorem names_rise {fs : List (Int × List Int × Int)} {l : List (List Int × Int)} (h : namesMayOf fs l = true) : RiseN l := by
  intro a b hab hb
  induction b with
  | zero => omega
  | succ b ih =>
    have h1 := (names_ok h).1 (b + 1) hb
    unfold okNameP nameAt at h1
    simp only [Bool.and_eq_true, Bool.or_eq_true, decide_eq_true_eq] at h1
    have h2 : lessL (l.getD b ([], 0)).1 (l.getD (b + 1) ([], 0)).1 = true := by
      rcases h1.1.2 with q | q
      · omega
      · simpa using q
    rcases Nat.lt_or_ge a b with c | c
    · exact lessL_trans _ _ _ (ih c (by omega)) h2
    · obtain rfl : a = b := by omega
      exact h2
theorem check_parts {s : St} (h : checkP s = true) : boundsOf s = true ∧ filesMayOf s = true ∧ namesMayOf s.files s.names = true ∧ namesMayOf s.files s.safe = true ∧ allNamedOf s = true := by
  unfold checkP at h
  simp only [Bool.and_eq_true] at h
  exact ⟨h.1.1.1.1, h.1.1.1.2, h.1.1.2, h.1.2, h.2⟩
theorem check_sound {s : St} (h : checkP s = true) : Sound s := by
  obtain ⟨h1, h2, h3, h4, h5⟩ := check_parts h
  have hb := bounds_len h1
  have hn := names_len h3
  have hs := names_len h4
  unfold boundsOf at h1
  simp only [Bool.and_eq_true, decide_eq_true_eq] at h1
  exact ⟨⟨hb, by omega, by omega, names_rise h3, filesMay_rise h2⟩, ⟨h1.1.1.1.1, h1.1.1.1.2⟩, ⟨h1.1.1.2, h1.1.2⟩⟩
end Go.Proofs.YtnchjlimkgbfpaaGreatDoor

namespace Go.Proofs.YtnchjlimkgbfpaaGreatDoor
open Go.RowKit
set_option linter.unusedVariables false
set_option maxRecDepth 20000
theorem fold_le : ∀ (m acc : List Int), (m.foldl addId acc).length ≤ acc.length + m.length
  | [], acc => by simp
  | x :: r, acc => by
    have h := fold_le r (addId acc x)
    have h2 : (addId acc x).length ≤ acc.length + 1 := by
      unfold addId
      split <;> simp
    simp only [List.foldl_cons, List.length_cons]
    omega
theorem fold_nodup : ∀ (m acc : List Int), acc.Nodup → (m.foldl addId acc).length = acc.length + m.length → (acc ++ m).Nodup
  | [], acc, h, _ => by simpa using h
  | x :: r, acc, h, e => by
    simp only [List.foldl_cons, List.length_cons] at e
    by_cases c : acc.contains x = true
    · have ha : addId acc x = acc := by unfold addId; rw [if_pos c]
      rw [ha] at e
      have := fold_le r acc
      omega
    · have ha : addId acc x = acc ++ [x] := by unfold addId; rw [if_neg c]
      have hn := addId_nodup h x
      rw [ha] at e hn
      have := fold_nodup r (acc ++ [x]) hn (by rw [e]; simp; omega)
      simpa using this
theorem fold_len : ∀ (m acc : List Int), (acc ++ m).Nodup → (m.foldl addId acc).length = acc.length + m.length
  | [], acc, _ => by simp
  | x :: r, acc, h => by
    have hx : ¬ acc.contains x = true := by
      intro q
      have q' : x ∈ acc := by simpa using q
      rw [List.nodup_append] at h
      exact h.2.2 x q' x (by simp) rfl
    have ha : addId acc x = acc ++ [x] := by unfold addId; rw [if_neg hx]
    simp only [List.foldl_cons, List.length_cons]
    rw [ha, fold_len r (acc ++ [x]) (by simpa using h)]
    simp
    omega
theorem ids_nodup (l : List (List Int × Int)) : (idsOf l).length = l.length ↔ (l.map (·.2)).Nodup := by
  unfold idsOf
  constructor
  · intro h
    have := fold_nodup (l.map (·.2)) [] (by simp) (by rw [h]; simp)
    simpa using this
  · intro h
    rw [fold_len (l.map (·.2)) [] (by simpa using h)]
    simp
structure NamesGood (fs : List (Int × List Int × Int)) (l : List (List Int × Int)) : Prop where
  may : ∀ p ∈ l, mayOf p.1 = true
  rise : l.Pairwise fun a b => lessL a.1 b.1 = true
  ids : ∀ p ∈ l, p.2 ∈ fs.map (·.1)
  once : (l.map (·.2)).Nodup
structure Nearly (s : St) : Prop where
  cap0 : 0 ≤ s.cap
  cap1 : s.cap ≤ 16777216
  next0 : 1 ≤ s.next
  next1 : s.next ≤ 2147483647
  few : s.files.length ≤ 256
  rise : s.files.Pairwise fun a b => a.1 < b.1
  ids : ∀ f ∈ s.files, 1 ≤ f.1 ∧ f.1 < s.next
  sync : ∀ f ∈ s.files, 0 ≤ f.2.2 ∧ f.2.2 ≤ (f.2.1.length : Int)
  used : usedOf s.files ≤ s.cap
  names : NamesGood s.files s.names
  safe : NamesGood s.files s.safe
structure Good (s : St) : Prop extends Nearly s where
  all : ∀ f ∈ s.files, f.1 ∈ s.names.map (·.2) ∨ f.1 ∈ s.safe.map (·.2)
theorem files_nodup {fs : List (Int × List Int × Int)} (h : fs.Pairwise fun a b => a.1 < b.1) : (fs.map (·.1)).Nodup := by
  unfold List.Nodup
  rw [List.pairwise_map]
  exact h.imp fun hab e => by omega
theorem riseF_pairwise {fs : List (Int × List Int × Int)} : RiseF fs ↔ fs.Pairwise fun a b => a.1 < b.1 := by
  rw [List.pairwise_iff_getElem]
  unfold RiseF
  constructor
  · intro h i j hi hj hij
    have := h i j hij hj
    simpa [List.getD, hi, hj] using this
  · intro h a b hab hb
    have := h a b (by omega) hb hab
    simpa [List.getD, hb, (show a < fs.length by omega)] using this
theorem riseN_pairwise {l : List (List Int × Int)} : RiseN l ↔ l.Pairwise fun a b => lessL a.1 b.1 = true := by
  rw [List.pairwise_iff_getElem]
  unfold RiseN
  constructor
  · intro h i j hi hj hij
    have := h i j hij hj
    simpa [List.getD, hi, hj] using this
  · intro h a b hab hb
    have := h a b (by omega) hb hab
    simpa [List.getD, hb, (show a < l.length by omega)] using this
theorem takeWhile_all {A : Type} {p : A → Bool} {l r : List A} (h : ∀ x ∈ l, p x = true) : (l ++ r).takeWhile p = l ++ r.takeWhile p := by
  induction l with
  | nil => rfl
  | cons x l ih => simp [h x (by simp), ih (fun y hy => h y (by simp [hy]))]
theorem thereF_of_mem {fs : List (Int × List Int × Int)} {id : Int} (h : fs.Pairwise fun a b => a.1 < b.1) (hm : id ∈ fs.map (·.1)) : thereF fs id = true := by
  obtain ⟨f, hf, rfl⟩ := List.mem_map.1 hm
  obtain ⟨l, r, rfl⟩ := List.append_of_mem hf
  have hl : ∀ x ∈ l, decide (x.1 < f.1) = true := by
    intro x hx
    rw [List.pairwise_append] at h
    simpa using h.2.2 x hx f (by simp)
  have hr : rankF (l ++ f :: r) f.1 = l.length := by
    unfold rankF rankOf
    rw [takeWhile_all hl]
    simp
  unfold thereF
  rw [hr]
  simp [List.getD]
theorem check_good {s : St} (h : checkP s = true) : Good s := by
  obtain ⟨h1, h2, h3, h4, h5⟩ := check_parts h
  have hso := check_sound h
  have hrise := riseF_pairwise.1 hso.1.2.2.2.2
  unfold boundsOf at h1
  simp only [Bool.and_eq_true, decide_eq_true_eq] at h1
  have hfile : ∀ f ∈ s.files, (1 ≤ f.1 ∧ f.1 < s.next) ∧ 0 ≤ f.2.2 ∧ f.2.2 ≤ (f.2.1.length : Int) := by
    intro f hf
    obtain ⟨i, hi, rfl⟩ := List.getElem_of_mem hf
    have hok := filesMay_ok h2 i hi
    unfold okFile at hok
    simp only [Bool.and_eq_true, decide_eq_true_eq] at hok
    have e : s.files.getD i (0, [], 0) = s.files[i] := by simp [List.getD, hi]
    rw [e] at hok
    have hp : 0 ≤ prevId s.files i := by
      clear hok e
      induction i with
      | zero => simp [prevId]
      | succ i ih =>
        have hok := filesMay_ok h2 i (by omega)
        unfold okFile at hok
        simp only [Bool.and_eq_true, decide_eq_true_eq] at hok
        have := ih (by omega) (List.getElem_mem _)
        unfold prevId
        rw [if_neg (by omega)]
        simp only [Nat.add_sub_cancel]
        omega
    exact ⟨⟨by omega, hok.1.1.2⟩, hok.1.2, hok.2⟩
  have hused : usedOf s.files ≤ s.cap := by
    unfold filesMayOf at h2
    simp only [Bool.and_eq_true, decide_eq_true_eq] at h2
    exact h2.2
  have hnames : ∀ l, namesMayOf s.files l = true → NamesGood s.files l := by
    intro l hl
    refine ⟨?_, riseN_pairwise.1 (names_rise hl), fun p hp => thereF_mem (names_there hl p hp), (ids_nodup l).1 (names_ok hl).2⟩
    intro p hp
    obtain ⟨k, hk, rfl⟩ := List.getElem_of_mem hp
    have := (names_ok hl).1 k hk
    unfold okNameP nameAt at this
    simp only [Bool.and_eq_true] at this
    have e : l.getD k ([], 0) = l[k] := by simp [List.getD, hk]
    rw [e] at this
    exact this.1.1
  refine ⟨⟨h1.1.1.1.1, h1.1.1.1.2, h1.1.1.2, h1.1.2, h1.2, hrise, fun f hf => (hfile f hf).1, fun f hf => (hfile f hf).2, hused, hnames _ h3, hnames _ h4⟩, ?_⟩
  intro f hf
  unfold allNamedOf at h5
  simp only [decide_eq_true_eq] at h5
  have hin : f.1 ∈ idsOf (s.names ++ s.safe) := by
    apply Classical.byContradiction
    intro hno
    have hsub : ∀ x ∈ idsOf (s.names ++ s.safe), x ∈ (s.files.map (·.1)).erase f.1 := by
      intro x hx
      have hne : x ≠ f.1 := fun e => hno (e ▸ hx)
      rw [List.mem_erase_of_ne hne]
      obtain ⟨p, hp, rfl⟩ := (mem_idsOf _ x).1 hx
      rcases List.mem_append.1 hp with hp | hp
      · exact (hnames _ h3).ids p hp
      · exact (hnames _ h4).ids p hp
    have hle := nodup_le _ _ (idsOf_nodup _) hsub
    have hmem : f.1 ∈ s.files.map (·.1) := List.mem_map.2 ⟨f, hf, rfl⟩
    rw [List.length_erase_of_mem hmem, List.length_map] at hle
    have hpos : 0 < s.files.length := List.length_pos_of_mem hf
    omega
  obtain ⟨p, hp, e⟩ := (mem_idsOf _ _).1 hin
  rcases List.mem_append.1 hp with hp | hp
  · exact .inl (List.mem_map.2 ⟨p, hp, e⟩)
  · exact .inr (List.mem_map.2 ⟨p, hp, e⟩)
theorem good_names {fs : List (Int × List Int × Int)} {l : List (List Int × Int)} (hr : fs.Pairwise fun a b => a.1 < b.1) (h : NamesGood fs l) : namesMayOf fs l = true := by
  unfold namesMayOf
  simp only [Bool.and_eq_true, decide_eq_true_eq]
  refine ⟨?_, (ids_nodup l).2 h.once⟩
  rw [List.all_eq_true]
  intro i hi
  rw [List.mem_range] at hi
  unfold okNameP nameAt
  have e : l.getD i ([], 0) = l[i] := by simp [List.getD, hi]
  rw [e]
  simp only [Bool.and_eq_true, Bool.or_eq_true, decide_eq_true_eq]
  refine ⟨⟨h.may _ (List.getElem_mem _), ?_⟩, thereF_of_mem hr (h.ids _ (List.getElem_mem _))⟩
  rcases Nat.eq_zero_or_pos i with q | q
  · exact .inl q
  · refine .inr ?_
    have := riseN_pairwise.2 h.rise (i - 1) i (by omega) hi
    rw [e] at this
    exact this
theorem good_check {s : St} (h : Good s) : checkP s = true := by
  unfold checkP
  simp only [Bool.and_eq_true]
  refine ⟨⟨⟨⟨?_, ?_⟩, good_names h.rise h.names⟩, good_names h.rise h.safe⟩, ?_⟩
  · unfold boundsOf
    simp only [Bool.and_eq_true, decide_eq_true_eq]
    exact ⟨⟨⟨⟨h.cap0, h.cap1⟩, h.next0⟩, h.next1⟩, h.few⟩
  · unfold filesMayOf
    simp only [Bool.and_eq_true, decide_eq_true_eq]
    refine ⟨?_, h.used⟩
    rw [List.all_eq_true]
    intro i hi
    rw [List.mem_range] at hi
    unfold okFile
    have e : s.files.getD i (0, [], 0) = s.files[i] := by simp [List.getD, hi]
    rw [e]
    simp only [Bool.and_eq_true, decide_eq_true_eq]
    have hm := List.getElem_mem (l := s.files) hi
    refine ⟨⟨⟨?_, (h.ids _ hm).2⟩, (h.sync _ hm).1⟩, (h.sync _ hm).2⟩
    unfold prevId
    split
    · have := (h.ids _ hm).1
      omega
    · have := riseF_pairwise.2 h.rise (i - 1) i (by omega) hi
      rw [e] at this
      exact this
  · unfold allNamedOf
    simp only [decide_eq_true_eq]
    have hsub : ∀ x ∈ idsOf (s.names ++ s.safe), x ∈ s.files.map (·.1) := by
      intro x hx
      obtain ⟨p, hp, rfl⟩ := (mem_idsOf _ x).1 hx
      rcases List.mem_append.1 hp with hp | hp
      · exact h.names.ids p hp
      · exact h.safe.ids p hp
    have h1 := nodup_le _ _ (idsOf_nodup _) hsub
    have h2 := nodup_le (s.files.map (·.1)) (idsOf (s.names ++ s.safe)) (files_nodup h.rise) (by
      intro x hx
      obtain ⟨f, hf, rfl⟩ := List.mem_map.1 hx
      rw [mem_idsOf]
      rcases h.all f hf with q | q
      · obtain ⟨p, hp, e⟩ := List.mem_map.1 q
        exact ⟨p, List.mem_append.2 (.inl hp), e⟩
      · obtain ⟨p, hp, e⟩ := List.mem_map.1 q
        exact ⟨p, List.mem_append.2 (.inr hp), e⟩)
    rw [List.length_map] at h1 h2
    omega
end Go.Proofs.YtnchjlimkgbfpaaGreatDoor
