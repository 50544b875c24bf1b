/- The texts QA, QB, in this order. -/
import Derived.Test.YtnchjlimkgbfpaaGreatDoorJ12

namespace Go.Proofs.YtnchjlimkgbfpaaGreatDoor
open Go.RowKit
set_option linter.unusedVariables false
set_option maxRecDepth 20000
set_option linter.unusedSimpArgs false
def idN (s : St) (name : List Int) : Int := (s.names.getD (rankN s.names name) ([], 0)).2
def hasF (s : St) (name : List Int) : Bool := thereN s.names name && thereF s.files (idN s name)
def idxF (s : St) (name : List Int) : Nat := rankF s.files (idN s name)
def fileD (s : St) (i : Nat) : Int × List Int × Int := s.files.getD i (0, [], 0)
def syncP (s : St) (name : List Int) : St × Int := if hasF s name then ({ s with files := s.files.set (idxF s name) ((fileD s (idxF s name)).1, (fileD s (idxF s name)).2.1, ((fileD s (idxF s name)).2.1.length : Int)) }, 0) else (s, 71)
def extendP (s : St) (name data : List Int) : St × Int :=
  if hasF s name then
    if s.cap - usedOf s.files < (data.length : Int) then (s, 51) else ({ s with files := s.files.set (idxF s name) ((fileD s (idxF s name)).1, (fileD s (idxF s name)).2.1 ++ data, (fileD s (idxF s name)).2.2) }, 0)
  else (s, 71)
theorem used_ge : ∀ (l : List (Int × List Int × Int)) (i : Nat), i < l.length → ((l.getD i (0, [], 0)).2.1.length : Int) ≤ usedOf l
  | [], i, h => by simp at h
  | x :: l, 0, _ => by
    have := used_pos l
    simp only [usedOf, List.map_cons, List.sum_cons] at this ⊢
    simp
    omega
  | x :: l, i + 1, h => by
    have := used_ge l i (by simpa using h)
    simp only [usedOf, List.map_cons, List.sum_cons] at this ⊢
    simp at this ⊢
    omega
theorem idx_lt {s : St} {name : List Int} (h : hasF s name = true) : idxF s name < s.files.length := by
  unfold hasF thereF at h
  simp only [Bool.and_eq_true, decide_eq_true_eq] at h
  exact h.2.1
theorem OpenS.rowAt {w : World} {base B : Nat} {s : St} {af : Option Addr} {cf : Nat} {an : Option Addr} {cn : Nat} {as' : Option Addr} {cs' : Nat} {m : List FRow} (h : OpenS w base B s af cf an cn as' cs' m) (i : Nat) (hi : i < s.files.length) :
    i < m.length ∧ (∃ g, af = some ⟨g, 0, none⟩) ∧ (m.getD i noF).2 = fileD s i ∧ ∃ a c, (m.getD i noF).1 = .slice a (fileD s i).2.1.length c := by
  have hl : m.length = s.files.length := by
    have := congrArg List.length h.2.2.1
    simpa using this
  have him : i < m.length := by omega
  have e : (m.getD i noF).2 = fileD s i := by
    unfold fileD
    rw [← h.2.2.1]
    simp [List.getD, him]
  refine ⟨him, ?_, e, ?_⟩
  · rcases h.2.2.2.1.1.2.2 with ⟨e2, e3⟩ | ⟨g, cap', cur, e2, _⟩
    · rw [List.length_map] at e3; omega
    · simp at e2
      exact ⟨g, e2.1⟩
  · have hm : m.getD i noF ∈ m := by simp [List.getD, him]
    have h1 := h.2.2.2.1.2.1 _ hm
    obtain ⟨a, c, e1, _⟩ := (Octs.own h1.1 h1.2.1).slice
    rw [e] at e1
    exact ⟨a, c, e1⟩
theorem OpenS.cells3 {w : World} {base B : Nat} {s : St} {g cf : Nat} {an : Option Addr} {cn : Nat} {as' : Option Addr} {cs' : Nat} {m : List FRow} (h : OpenS w base B s (some ⟨g, 0, none⟩) cf an cn as' cs' m) (i : Nat) (hi : i < m.length) :
    w.cell? ⟨g, i * 3, none⟩ = some (.int .i64 (m.getD i noF).2.1) ∧ w.cell? ⟨g, i * 3 + 1, none⟩ = some (m.getD i noF).1 ∧ w.cell? ⟨g, i * 3 + 2, none⟩ = some (.int .i64 (m.getD i noF).2.2.2) ∧ ∀ q, w.frozen? ⟨g, q, none⟩ = false := by
  obtain ⟨b, off, cap, e, _, _, hc⟩ := (Rws.own h.2.2.2.1.1).at i (by rw [List.length_map]; exact hi)
  simp at e
  obtain ⟨⟨rfl, rfl⟩, _⟩ := e
  have hr : (m.map frow).getD i [] = frow (m.getD i noF) := by simp [List.getD, hi]
  rw [hr] at hc
  have c0 := hc 0 _ rfl
  have c1 := hc 1 _ rfl
  have c2 := hc 2 _ rfl
  simp only [Nat.zero_add, Nat.add_zero] at c0 c1 c2
  refine ⟨c0, c1, c2, fun q => ?_⟩
  obtain ⟨cur, hh, _⟩ := h.2.2.2.1.1.blk
  exact blk_frozen hh q
theorem map_set_snd (m : List FRow) (i : Nat) (y : FRow) : (m.set i y).map (·.2) = (m.map (·.2)).set i y.2 := by rw [List.map_set]
theorem OpenS.setFile {w w1 : World} {base B : Nat} {s : St} {g cf : Nat} {an : Option Addr} {cn : Nat} {as' : Option Addr} {cs' : Nat} {m : List FRow} (h : OpenS w base B s (some ⟨g, 0, none⟩) cf an cn as' cs' m) (hbase : base ≤ w.heap.size) (i : Nat) (hi : i < m.length) {r : Option Nat} (hg : w.grownBy w1 r) (hr : r = none ∨ r = (m.getD i noF).1.ownBlock)
    (k : Nat) (u : Value) (y : FRow) (hf : OwnF (w1.setCell ⟨g, k, none⟩ u) base (.slice (some ⟨g, 0, none⟩) m.length cf) (m.set i y)) : OwnS (w1.setCell ⟨g, k, none⟩ u) base B { s with files := s.files.set i y.2 } ∧ Beside base B w (w1.setCell ⟨g, k, none⟩ u) := by
  obtain ⟨hB, hb, hm, of, on, os, hap, hi1, hi2⟩ := h
  have hmem : m.getD i noF ∈ m := by simp [List.getD, hi]
  have hd := (of.2.1 _ hmem).1
  have ne1 : ∀ {e : TypeId} {sz : Nat} {v : Value} {n : Nat} {xs : List Value}, w.ownsRow base e sz v n xs → e ≠ 5 → v.ownBlock = none ∨ v.ownBlock ≠ r := by
    intro e sz v n xs ho he
    rcases hr with q | q
    · rw [q]
      cases v.ownBlock with
      | none => exact .inl rfl
      | some b => exact .inr (by simp)
    · rw [q]
      exact own_own_ne ho hd he
  have nB : some B ≠ r := by
    rcases hr with q | q
    · rw [q]; simp
    · rw [q]
      have := own_blk_ne hd hb (by decide)
      rcases this with q | q
      · rw [q]; simp
      · exact fun e => q e.symm
  have b1 := blk_grown hb hg nB
  have on1 := on.far hg (ne1 on.2.2 (by decide))
  have os1 := os.far hg (ne1 os.2.2 (by decide))
  have of1 := of.1.far hg (ne1 of.1.2 (by decide))
  have g5 := grown_set w1 ⟨g, k, none⟩ u
  have hgb := of.1.2.lt g rfl
  have nBg : some B ≠ some g := by
    have := own_blk_ne of1.2 b1 (by decide)
    simp [Value.ownBlock] at this
    intro q
    injection q with q
    exact this q.symm
  refine ⟨⟨hB, _, _, _, m.set i y, blk_grown b1 g5 nBg, ?_, ?_, on1.far g5 (own_own_ne on1.2.2 of1.2 (by decide)), os1.far g5 (own_own_ne os1.2.2 of1.2 (by decide)), hap, hi1, hi2⟩, ?_⟩
  · rw [map_set_snd, hm]
  · exact hf
  · refine ((Beside.refl base B w).grown hg hbase (fun j hj => ?_)).grown g5 (Nat.le_trans hbase hg.size) (fun j hj => by injection hj with hj; rw [← hj]; exact .inl hgb.1)
    rcases hr with q | q
    · rw [q] at hj; cases hj
    · rw [q] at hj; exact .inl (hd.lt j hj).1
set_option maxHeartbeats 1000000 in
theorem syncFile_any (s : St) (name : List Int) (hna : OctL name) (base B : Nat) (w : World) (hS : OwnS w base B s) (hF : Fine s) (hbase : base ≤ w.heap.size) :
    Calls Tryz.prog 144 #[.pointer (some ⟨B, 0, none⟩), .string (strOfNums name)] w fun e w' => e = .returned (.int .i64 (syncP s name).2) ∧ OwnS w' base B (syncP s name).1 ∧ Beside base B w w' := by
  obtain ⟨af, cf, an, cn, as', cs', m, hO⟩ := hS.open
  have HO : Hid (OpenS w base B s af cf an cn as' cs' m) := hO
  have q0 := blk_cell hO.2.1 0 _ rfl
  have q1 := blk_cell hO.2.1 1 _ rfl
  have q2 := blk_cell hO.2.1 2 _ rfl
  have q3 := blk_cell hO.2.1 3 _ rfl
  have q4 := blk_cell hO.2.1 4 _ rfl
  clear hO hS
  have hfw : FilesW w (.slice af m.length cf) s.files := by rw [← HO.out.2.2.1]; exact FilesW.own HO.out.2.2.2.1
  have hc := file_any s.files s.names name hna (.int .i64 s.cap) _ _ (.slice as' s.safe.length cs') (.int .i64 s.next) w hfw (NamesW.own HO.out.2.2.2.2.1) (by have := hF.1; omega) (by have := hF.2.1; omega) hF.2.2.2.2 hF.2.2.2.1
  clear hfw
  have eh : (thereN s.names name && thereF s.files (s.names.getD (rankN s.names name) ([], 0)).2) = hasF s name := rfl
  rw [eh] at hc
  cases hth : hasF s name with
  | false =>
    have HR : Hid (syncP s name = (s, 71)) := by unfold Hid syncP; rw [hth]; rfl
    rw [hth] at hc
    clear hth eh
    generalize (if thereN s.names name = true then ((rankF s.files (s.names.getD (rankN s.names name) ([], 0)).2 : Nat) : Int) else 0) = ix at hc
    go_enter Tryz.func144, Tryz.ntmps144
    go_wp2_with fail
    refine hc.mono ?_
    rintro e w1 ⟨rfl, u1⟩
    have HU : Hid (Below w.heap.size w w1) := u1
    clear u1 hc q0 q1 q2 q3 q4
    go_wp2_with fail
    go_ret
    rw [HR.out]
    exact ⟨rfl, (HO.out.up HU.out).shut, Below_beside HU.out hbase⟩
  | true =>
    have HR : Hid (syncP s name = ({ s with files := s.files.set (idxF s name) ((fileD s (idxF s name)).1, (fileD s (idxF s name)).2.1, ((fileD s (idxF s name)).2.1.length : Int)) }, 0)) := by unfold Hid syncP; rw [hth]; rfl
    have hlt := idx_lt hth
    have ei : (if thereN s.names name = true then ((rankF s.files (s.names.getD (rankN s.names name) ([], 0)).2 : Nat) : Int) else 0) = ((idxF s name : Nat) : Int) := by
      have h1 : thereN s.names name = true := by
        unfold hasF at hth
        rw [Bool.and_eq_true] at hth
        exact hth.1
      rw [if_pos h1]
      rfl
    rw [hth, ei] at hc
    clear hth eh ei
    generalize idxF s name = i at *
    obtain ⟨him, ⟨g, rfl⟩, e2, au, cu, eu⟩ := HO.out.rowAt i hlt
    have hii : (i : Int) < (m.length : Int) := by omega
    go_enter Tryz.func144, Tryz.ntmps144
    go_wp2_with fail
    refine hc.mono ?_
    rintro e w1 ⟨rfl, u1⟩
    have HO1 : Hid (OpenS w1 base B s (some ⟨g, 0, none⟩) cf an cn as' cs' m) := HO.out.up u1
    have HU : Hid (Beside base B w w1) := Below_beside u1 hbase
    have hb1 : base ≤ w1.heap.size := Nat.le_trans hbase u1.size
    clear u1 hc q0 q1 q2 q3 q4
    have q1 := blk_cell HO1.out.2.1 1 _ rfl
    obtain ⟨k0, k1, k2, fz⟩ := HO1.out.cells3 i him
    have f2 := fz (i * 3 + 2)
    rw [eu] at k1
    have hlen : (fileD s i).2.1.length ≤ 140737488355328 := by
      have hm : m.getD i noF ∈ m := by simp [List.getD, him]
      have := (HO1.out.2.2.2.1.2.1 _ hm).2.2.1
      rw [e2] at this
      exact this
    have hsf := HO1.out.2.2.2.1.sync rfl i him ((fileD s i).2.1.length : Int) (by unfold In64; omega)
    have hst := HO1.out.setFile hb1 i him (grown_refl w1 none) (.inl rfl) _ _ _ hsf
    rw [e2] at hst
    have HS : Hid (OwnS (w1.setCell ⟨g, i * 3 + 2, none⟩ (.int .i64 ((fileD s i).2.1.length : Int))) base B { s with files := s.files.set i ((fileD s i).1, (fileD s i).2.1, ((fileD s i).2.1.length : Int)) } ∧ Beside base B w (w1.setCell ⟨g, i * 3 + 2, none⟩ (.int .i64 ((fileD s i).2.1.length : Int)))) := ⟨hst.1, HU.out.trans hst.2⟩
    clear hsf hst e2 eu fz
    generalize hk : (m.getD i noF).2.2.2 = sy at k2
    clear hk k0
    generalize hfd : (fileD s i).2.1 = d at *
    clear hfd
    go_wp2_with fail
    go_region
    all_goals
      go_wp2_with fail
      go_ret
      rw [HR.out]
      exact ⟨rfl, HS.out.1.up (up_dr (Below.refl _ _)), HS.out.2.drew⟩
set_option maxHeartbeats 1000000 in
set_option maxRecDepth 20000 in
theorem extend_anyG (s : St) (name data : List Int) (hna : OctL name) (vd : Value) (base B : Nat) (w : World) (hS : OwnS w base B s) (hF : Fine s) (hvd : Octs w vd data) (hcap : 0 ≤ s.cap ∧ s.cap ≤ 16777216) (hbase : base ≤ w.heap.size) :
    Calls Tryz.prog 143 #[.pointer (some ⟨B, 0, none⟩), .string (strOfNums name), vd] w fun e w' => e = .returned (.int .i64 (extendP s name data).2) ∧ OwnS w' base B (extendP s name data).1 ∧ Beside base B w w' := by
  obtain ⟨af, cf, an, cn, as', cs', m, hO⟩ := hS.open
  have HO : Hid (OpenS w base B s af cf an cn as' cs' m) := hO
  have q0 := blk_cell hO.2.1 0 _ rfl
  have q1 := blk_cell hO.2.1 1 _ rfl
  have q2 := blk_cell hO.2.1 2 _ rfl
  have q3 := blk_cell hO.2.1 3 _ rfl
  have q4 := blk_cell hO.2.1 4 _ rfl
  clear hO hS
  have hfw : FilesW w (.slice af m.length cf) s.files := by rw [← HO.out.2.2.1]; exact FilesW.own HO.out.2.2.2.1
  have hc := file_any s.files s.names name hna (.int .i64 s.cap) _ _ (.slice as' s.safe.length cs') (.int .i64 s.next) w hfw (NamesW.own HO.out.2.2.2.2.1) (by have := hF.1; omega) (by have := hF.2.1; omega) hF.2.2.2.2 hF.2.2.2.1
  clear hfw
  have eh : (thereN s.names name && thereF s.files (s.names.getD (rankN s.names name) ([], 0)).2) = hasF s name := rfl
  rw [eh] at hc
  cases hth : hasF s name with
  | false =>
    have HR : Hid (extendP s name data = (s, 71)) := by unfold Hid extendP; rw [hth]; rfl
    rw [hth] at hc
    clear hth eh
    generalize (if thereN s.names name = true then ((rankF s.files (s.names.getD (rankN s.names name) ([], 0)).2 : Nat) : Int) else 0) = ix at hc
    go_enter Tryz.func143, Tryz.ntmps143
    go_wp2_with fail
    refine hc.mono ?_
    rintro e w1 ⟨rfl, u1⟩
    have HU : Hid (Below w.heap.size w w1) := u1
    clear u1 hc q0 q1 q2 q3 q4
    go_wp2_with fail
    go_ret
    rw [HR.out]
    exact ⟨rfl, (HO.out.up HU.out).shut, Below_beside HU.out hbase⟩
  | true =>
    have HR : Hid (extendP s name data = if s.cap - usedOf s.files < (data.length : Int) then (s, 51) else ({ s with files := s.files.set (idxF s name) ((fileD s (idxF s name)).1, (fileD s (idxF s name)).2.1 ++ data, (fileD s (idxF s name)).2.2) }, 0)) := by unfold Hid extendP; rw [hth]; rfl
    have hlt := idx_lt hth
    have ei : (if thereN s.names name = true then ((rankF s.files (s.names.getD (rankN s.names name) ([], 0)).2 : Nat) : Int) else 0) = ((idxF s name : Nat) : Int) := by
      have h1 : thereN s.names name = true := by
        unfold hasF at hth
        rw [Bool.and_eq_true] at hth
        exact hth.1
      rw [if_pos h1]
      rfl
    rw [hth, ei] at hc
    clear hth eh ei
    generalize idxF s name = i at *
    obtain ⟨him, ⟨g, rfl⟩, e2, au, cu, eu⟩ := HO.out.rowAt i hlt
    have hii : (i : Int) < (m.length : Int) := by omega
    have HVD : Hid (Octs w vd data) := hvd
    obtain ⟨ad, cd, evd, _⟩ := hvd.slice
    subst evd
    clear hvd
    have hup := used_pos s.files
    have hus := used_le s.files (by
      have := FilesW.own HO.out.2.2.2.1
      rw [HO.out.2.2.1] at this
      exact this.data)
    have hfl := hF.1
    obtain ⟨hcap0, hcap1⟩ := hcap
    go_enter Tryz.func143, Tryz.ntmps143
    go_wp2_with fail
    refine hc.mono ?_
    rintro e w1 ⟨rfl, u1⟩
    have HO1 : Hid (OpenS w1 base B s (some ⟨g, 0, none⟩) cf an cn as' cs' m) := HO.out.up u1
    have HU : Hid (Beside base B w w1) := Below_beside u1 hbase
    have HVD1 : Hid (Octs w1 (.slice ad data.length cd) data) := HVD.out.up u1
    have hb1 : base ≤ w1.heap.size := Nat.le_trans hbase u1.size
    clear u1 hc q0 q1 q2 q3 q4
    have q0 := blk_cell HO1.out.2.1 0 _ rfl
    have q1 := blk_cell HO1.out.2.1 1 _ rfl
    have p0 := cell_up q0
    have p1 := cell_up q1
    have HFW : Hid (FilesW w1 (.slice (some ⟨g, 0, none⟩) m.length cf) s.files) := by
      unfold Hid
      rw [← HO1.out.2.2.1]
      exact FilesW.own HO1.out.2.2.2.1
    have HU2 : Hid (∃ us, us = usedOf s.files) := ⟨_, rfl⟩
    obtain ⟨us, hus2⟩ := HU2.out
    have HUs : Hid (us = usedOf s.files) := hus2
    rw [← hus2] at hup hus HR
    clear hus2 HU2
    have hwr : IntKind.i64.wrap (s.cap - us) = s.cap - us := by rw [IntKind.wrap_i64]; omega
    have HCU : Hid (∀ p : UpW w1, Calls Tryz.prog 151 #[.slice (some ⟨g, 0, none⟩) m.length cf] p.val fun e w' => e = .returned (.int .i64 us) ∧ Below p.val.heap.size p.val w') := by
      intro p
      rw [HUs.out]
      exact used_any s.files _ _ (HFW.out.up p.up) hfl
    go_wp2_with fail
    refine wp_region_up (by kernel_rfl) (by kernel_rfl) ?_
    repeat
      (with_reducible refine wpQuiet_step (fun K hK => ?_)
       go_simp
       first
         | (refine hK _ ?_; clear hK K)
         | (apply Exists.intro; refine ⟨fun _ => ?_, hK _ ?_⟩; go_at_call 151; refine calls_up (HCU.out _); clear hK K))
    with_reducible refine wpQuiet_nil ?_
    intro _ hw'
    obtain ⟨p, hw''⟩ := hw'
    subst hw''
    have HO2 : Hid (OpenS p.val base B s (some ⟨g, 0, none⟩) cf an cn as' cs' m) := HO1.out.up p.up
    have HU2 : Hid (Beside base B w p.val) := HU.out.trans (Below_beside p.up hb1)
    have HVD2 : Hid (Octs p.val (.slice ad data.length cd) data) := HVD1.out.up p.up
    have hb2 : base ≤ p.val.heap.size := Nat.le_trans hb1 p.up.size
    clear HCU HFW p0 p1 q0 q1 HVD1 HO1 HVD
    generalize p.val = w2 at *
    by_cases hfull : s.cap - us < (data.length : Int)
    · rw [if_pos hfull] at HR
      go_wp2_with fail
      go_ret
      rw [HR.out]
      exact ⟨rfl, HO2.out.shut, HU2.out⟩
    · rw [if_neg hfull] at HR
      have q1 := blk_cell HO2.out.2.1 1 _ rfl
      obtain ⟨k0, k1, k2, fz⟩ := HO2.out.cells3 i him
      have f1 := fz (i * 3 + 1)
      rw [eu] at k1
      have hm : m.getD i noF ∈ m := by simp [List.getD, him]
      have hrow := HO2.out.2.2.2.1.2.1 _ hm
      have hdl : (fileD s i).2.1.length ≤ 140737488355328 := by
        have := hrow.2.2.1
        rw [e2] at this
        exact this
      have hle : ((fileD s i).2.1.length : Int) ≤ us := by
        rw [HUs.out]
        exact used_ge s.files i hlt
      have ho := hrow.1
      rw [eu, e2] at ho
      obtain ⟨v', w3, hr, ho3, hg3, hn3⟩ := run_append_octs_near w2.drew 88 base _ _ _ data (show OwnB w2.drew base _ _ from ho) (show Octs w2.drew _ _ from HVD2.out) (by omega) hb2
      obtain ⟨a3, c3, e3, _⟩ := (Octs.own ho3 (by
        intro x hx
        rcases List.mem_append.1 hx with q | q
        · have := hrow.2.1
          rw [e2] at this
          exact this x q
        · exact HVD2.out.1 x q)).slice
      subst e3
      have hG : w2.grownBy w3 (Value.ownBlock (.slice au (fileD s i).2.1.length cu)) := ⟨hg3.os, hg3.tape, hg3.output, hg3.size, hg3.block⟩
      have hg4 : w2.grownBy w3 (m.getD i noF).1.ownBlock := by rw [eu]; exact hG
      have hn4 : Near w2 (m.getD i noF).1 (.slice a3 ((fileD s i).2.1 ++ data).length c3) := by rw [eu]; exact hn3
      have hsf := HO2.out.2.2.2.1.data rfl i him ho3 hg4 hn4 ⟨by
        intro x hx
        rcases List.mem_append.1 hx with q | q
        · have := hrow.2.1
          rw [e2] at this
          exact this x q
        · exact HVD2.out.1 x q, by rw [List.length_append]; omega⟩
      have hst := HO2.out.setFile hb2 i him hg4 (.inr rfl) _ _ _ hsf
      rw [e2] at hst
      have HS : Hid (OwnS (w3.setCell ⟨g, i * 3 + 1, none⟩ (.slice a3 ((fileD s i).2.1 ++ data).length c3)) base B { s with files := s.files.set i ((fileD s i).1, (fileD s i).2.1 ++ data, (fileD s i).2.2) } ∧ Beside base B w (w3.setCell ⟨g, i * 3 + 1, none⟩ (.slice a3 ((fileD s i).2.1 ++ data).length c3))) := ⟨hst.1, HU2.out.trans hst.2⟩
      have hR3 := HO2.out.2.2.2.1.1.far hg4 (own_own_ne HO2.out.2.2.2.1.1.2 hrow.1 (by decide))
      have z1 : w3.cell? ⟨B, 1, none⟩ = some (.slice (some ⟨g, 0, none⟩) m.length cf) := by
        refine hg4.cell q1 ?_
        have := own_blk_ne hrow.1 HO2.out.2.1 (by decide)
        intro q
        rcases this with r | r
        · rw [r] at q; cases q
        · exact r q.symm
      have zne : some g ≠ (m.getD i noF).1.ownBlock := by
        have := own_own_ne HO2.out.2.2.2.1.1.2 hrow.1 (by decide)
        rcases this with r | r
        · simp [Value.ownBlock] at r
        · exact r
      have z2 : w3.cell? ⟨g, i * 3 + 1, none⟩ = some (.slice au (fileD s i).2.1.length cu) := hg4.cell k1 zne
      have z3 : w3.frozen? ⟨g, i * 3 + 1, none⟩ = false := by
        obtain ⟨cur, hh, _⟩ := hR3.blk
        exact blk_frozen hh _
      clear hsf hst e2 eu fz hrow ho ho3 hg3 hn3 hG hg4 hn4 hR3 zne k0 k2 hm
      rw [List.length_append] at hr HS
      generalize hfd : (fileD s i).2.1.length = dl at *
      clear hfd
      go_wp2_with fail
      go_region_law (refine step_known rfl (exec_append (d := .tmp 44) (s := .tmp 45) (t := 88) (t' := 88) rfl (by simp [Act.eval, Act.put]) (by simp [Act.eval, Act.put]) hr) ?_)
      all_goals
        go_wp2_with fail
        go_ret
        rw [HR.out]
        exact ⟨rfl, HS.out⟩
end Go.Proofs.YtnchjlimkgbfpaaGreatDoor

namespace Go.Proofs.YtnchjlimkgbfpaaGreatDoor
open Go.RowKit
set_option linter.unusedVariables false
set_option maxRecDepth 20000
set_option linter.unusedSimpArgs false
def createP (s : St) (name : List Int) : St × Int :=
  if mayOf name then
    if thereN s.names name then (s, 6) else if s.files.length = 256 ∨ s.next = 2147483647 then (s, 51) else
      ({ s with names := insN s.names (rankN s.names name) (name, s.next), files := s.files ++ [(s.next, [], 0)], next := s.next + 1 }, 0)
  else (s, 31)
theorem OpenS.setNext {w : World} {base B : Nat} {s : St} {af : Option Addr} {cf : Nat} {an : Option Addr} {cn : Nat} {as' : Option Addr} {cs' : Nat} {m : List FRow} (h : OpenS w base B s af cf an cn as' cs' m) (hbase : base ≤ w.heap.size) (k : Int) (hk : In64 k) :
    OwnS (w.setCell ⟨B, 4, none⟩ (.int .i64 k)) base B { s with next := k } ∧ Beside base B w (w.setCell ⟨B, 4, none⟩ (.int .i64 k)) := by
  obtain ⟨hB, hb, hm, of, on, os, hap, hi1, hi2⟩ := h
  have g5 := grown_set w ⟨B, 4, none⟩ (.int .i64 k)
  refine ⟨⟨hB, _, _, _, m, blk_set hb 4 _, hm, ?_, ?_, ?_, hap, hi1, hk⟩, ?_⟩
  · exact of.far g5 (own_blk_ne of.1.2 hb (by decide)) (fun y hy => own_blk_ne (of.2.1 y hy).1 hb (by decide))
  · exact on.far g5 (own_blk_ne on.2.2 hb (by decide))
  · exact os.far g5 (own_blk_ne os.2.2 hb (by decide))
  · exact (Beside.refl base B w).grown g5 hbase (fun j hj => by injection hj with hj; rw [← hj]; exact .inr rfl)
theorem OpenS.addFile {w w1 : World} {base B : Nat} {s : St} {af : Option Addr} {cf : Nat} {an : Option Addr} {cn : Nat} {as' : Option Addr} {cs' : Nat} {m : List FRow} (h : OpenS w base B s af cf an cn as' cs' m) (hbase : base ≤ w.heap.size) {v' : Value} (id : Int) (hid : In64 id)
    (hg : w.grownBy w1 (Value.ownBlock (.slice af m.length cf))) (ho : OwnR w1 base 110 3 v' (m.map frow ++ [[.int .i64 id, .slice none 0 0, .int .i64 0]])) :
    w1.heap[B]? = some (.cells #[.int .i64 s.cap, .slice af m.length cf, .slice an s.names.length cn, .slice as' s.safe.length cs', .int .i64 s.next] 35) ∧ OwnS (w1.setCell ⟨B, 1, none⟩ v') base B { s with files := s.files ++ [(id, [], 0)] } ∧ Beside base B w (w1.setCell ⟨B, 1, none⟩ v') := by
  obtain ⟨hB, hb, hm, of, on, os, hap, hi1, hi2⟩ := h
  have nB : some B ≠ Value.ownBlock (.slice af m.length cf) := by
    have := own_blk_ne of.1.2 hb (by decide)
    rcases this with q | q
    · rw [q]; simp
    · exact fun e => q e.symm
  have b1 := blk_grown hb hg nB
  have on1 := on.far hg (own_own_ne on.2.2 of.1.2 (by decide))
  have os1 := os.far hg (own_own_ne os.2.2 of.1.2 (by decide))
  have g5 := grown_set w1 ⟨B, 1, none⟩ v'
  have ho5 := ho.far g5 (own_blk_ne ho.2 b1 (by decide))
  refine ⟨b1, ⟨hB, _, _, _, m ++ [(.slice none 0 0, id, [], 0)], blk_set b1 1 v', ?_, ⟨?_, ?_, ?_⟩, ?_, ?_, hap, hi1, hi2⟩, ?_⟩
  · simp [hm]
  · rw [List.map_append]
    exact ho5
  · intro y hy
    rcases List.mem_append.1 hy with q | q
    · have h1 := of.2.1 y q
      have h2 := h1.1.far hg (own_own_ne h1.1 of.1.2 (by decide))
      exact ⟨h2.far g5 (own_blk_ne h2 b1 (by decide)), h1.2⟩
    · simp at q
      subst q
      exact ⟨OwnB.nil _ _, ⟨(fun x hx => by cases hx), by simp, hid, by show In64 0; unfold In64; omega⟩⟩
  · rw [List.pairwise_append]
    refine ⟨of.2.2, by simp, fun a ha b hb => ?_⟩
    simp at hb
    subst hb
    exact Apart.symm (.inl rfl)
  · exact on1.far g5 (own_blk_ne on1.2.2 b1 (by decide))
  · exact os1.far g5 (own_blk_ne os1.2.2 b1 (by decide))
  · refine ((Beside.refl base B w).grown hg hbase (fun k hk => .inl (of.1.2.lt k hk).1)).grown g5 (Nat.le_trans hbase hg.size) (fun k hk => ?_)
    injection hk with hk
    rw [← hk]
    exact .inr rfl
set_option maxHeartbeats 2000000 in
set_option maxRecDepth 20000 in
theorem create_any (s : St) (name : List Int) (hna : OctL name) (hnl : name.length ≤ 140737488355328) (base B : Nat) (w : World) (hS : OwnS w base B s) (hF : Fine s) (hnx : 1 ≤ s.next ∧ s.next ≤ 2147483647) (hbase : base ≤ w.heap.size) :
    Calls Tryz.prog 142 #[.pointer (some ⟨B, 0, none⟩), .string (strOfNums name)] w fun e w' => e = .returned (.int .i64 (createP s name).2) ∧ OwnS w' base B (createP s name).1 ∧ Beside base B w w' := by
  have HS0 : Hid (OwnS w base B s) := hS
  clear hS
  have hc1 := nameMay_any name hna hnl w
  obtain ⟨hnx0, hnx1⟩ := hnx
  cases hmay : mayOf name with
  | false =>
    have HR : Hid (createP s name = (s, 31)) := by unfold Hid createP; rw [hmay]; rfl
    rw [hmay] at hc1
    clear hmay
    go_enter Tryz.func142, Tryz.ntmps142
    go_wp2_with fail
    refine hc1.mono ?_
    rintro e w1 ⟨rfl, u1⟩
    have HU : Hid (Below w.heap.size w w1) := u1
    clear u1 hc1
    go_wp2_with fail
    go_ret
    rw [HR.out]
    exact ⟨rfl, HS0.out.up HU.out, Below_beside HU.out hbase⟩
  | true =>
    rw [hmay] at hc1
    have HM : Hid (mayOf name = true) := hmay
    clear hmay
    go_enter Tryz.func142, Tryz.ntmps142
    go_wp2_with fail
    refine hc1.mono ?_
    rintro e w1 ⟨rfl, u1⟩
    have HU : Hid (Beside base B w w1) := Below_beside u1 hbase
    have hb1 : base ≤ w1.heap.size := Nat.le_trans hbase u1.size
    have HS1 : Hid (OwnS w1 base B s) := HS0.out.up u1
    clear u1 hc1
    obtain ⟨af, cf, an, cn, as', cs', m, hO⟩ := HS1.out.open
    have HO : Hid (OpenS w1 base B s af cf an cn as' cs' m) := hO
    have q2 := blk_cell hO.2.1 2 _ rfl
    clear hO
    have hc2 := place_any s.names name hna _ w1 (NamesW.own HO.out.2.2.2.2.1) (by have := hF.2.1; omega) hF.2.2.2.1
    cases hth : thereN s.names name with
    | true =>
      have HR : Hid (createP s name = (s, 6)) := by unfold Hid createP; rw [HM.out, hth]; rfl
      rw [hth] at hc2
      clear hth
      go_wp2_with fail
      refine hc2.mono ?_
      rintro e w2 ⟨rfl, u2⟩
      have HU2 : Hid (Below w1.heap.size w1 w2) := u2
      clear u2 hc2 q2
      go_wp2_with fail
      go_ret
      rw [HR.out]
      exact ⟨rfl, HS1.out.up HU2.out, HU.out.trans (Below_beside HU2.out hb1)⟩
    | false =>
      rw [hth] at hc2
      have HT : Hid (thereN s.names name = false) := hth
      clear hth
      go_wp2_with fail
      refine hc2.mono ?_
      rintro e w2 ⟨rfl, u2⟩
      have HU2 : Hid (Beside base B w w2) := HU.out.trans (Below_beside u2 hb1)
      have hb2 : base ≤ w2.heap.size := Nat.le_trans hb1 u2.size
      have HO2 : Hid (OpenS w2 base B s af cf an cn as' cs' m) := HO.out.up u2
      clear u2 hc2 q2 HO HS1
      have q1 := blk_cell HO2.out.2.1 1 _ rfl
      have q2 := blk_cell HO2.out.2.1 2 _ rfl
      have q4 := blk_cell HO2.out.2.1 4 _ rfl
      have hml : m.length = s.files.length := by
        have := congrArg List.length HO2.out.2.2.1
        simpa using this
      by_cases c1 : s.files.length = 256
      · have HR : Hid (createP s name = (s, 51)) := by unfold Hid createP; rw [if_pos HM.out, if_neg (by rw [HT.out]; decide), if_pos (.inl c1)]
        have c1' : ((m.length : Int) == 256) = true := by rw [hml, c1]; rfl
        have c1a : m.length = 256 := by omega
        go_wp2_with fail
        go_ret
        rw [HR.out]
        exact ⟨rfl, HO2.out.shut, HU2.out⟩
      · have c1' : ((m.length : Int) == 256) = false := by rw [beq_eq_false_iff_ne]; omega
        by_cases c2 : s.next = 2147483647
        · have HR : Hid (createP s name = (s, 51)) := by unfold Hid createP; rw [if_pos HM.out, if_neg (by rw [HT.out]; decide), if_pos (.inr c2)]
          go_wp2_with fail
          go_ret
          rw [HR.out]
          exact ⟨rfl, HO2.out.shut, HU2.out⟩
        · have c2' : (s.next == 2147483647) = false := by rw [beq_eq_false_iff_ne]; exact c2
          have HR : Hid (createP s name = ({ s with names := insN s.names (rankN s.names name) (name, s.next), files := s.files ++ [(s.next, [], 0)], next := s.next + 1 }, 0)) := by
            unfold Hid createP
            rw [if_pos HM.out, if_neg (by rw [HT.out]; decide), if_neg (fun h => h.elim c1 c2)]
          have hrk := rankOf_le (fun p => lessL p.1 name) s.names
          have HRk : Hid (∃ r, r = rankN s.names name ∧ r ≤ s.names.length) := ⟨_, rfl, hrk⟩
          obtain ⟨r, hr, hrl⟩ := HRk.out
          rw [← hr] at HR ⊢
          clear hrk HRk hr
          have HC : Hid (∀ VB X, Below w2.heap.size w2 X → X.heap[VB]? = some (.cells #[.string (strOfNums name), .int .i64 s.next] 146) → w2.heap.size ≤ VB → Calls Tryz.prog 177 #[.slice an s.names.length cn, .int .i64 r, .slice (some ⟨VB, 0, none⟩) 1 1] X fun e w' => ∃ a4 c4, e = .returned (.slice a4 (s.names.length + 1) c4) ∧ w'.cell? ⟨B, 2, none⟩ = some (.slice an s.names.length cn) ∧ w'.frozen? ⟨B, 2, none⟩ = false ∧
              Hid (OwnS (w'.setCell ⟨B, 2, none⟩ (.slice a4 (s.names.length + 1) c4)) base B { s with names := insN s.names r (name, s.next) } ∧ Beside base B w (w'.setCell ⟨B, 2, none⟩ (.slice a4 (s.names.length + 1) c4)))) := by
            intro VB X hWx hblk hVB
            have oX := HO2.out.up hWx
            have hbX : base ≤ X.heap.size := Nat.le_trans hb2 hWx.size
            refine (insertN_any s.names _ r (name, s.next) VB base _ oX.2.2.2.2.1 ⟨hna, hnl, by unfold In64; omega⟩ hblk ?_ hF.2.1 hrl hbX).mono ?_
            · intro q
              have := (HO2.out.2.2.2.2.1.2.2.lt _ q).2
              omega
            · rintro e w' ⟨v', rfl, on', g', near'⟩
              obtain ⟨a4, c4, e4, _, _⟩ := (NamesW.own on').len
              rw [insN_len s.names r _ hrl] at e4
              subst e4
              have st := oX.setNames hbX g' near' on'
              exact ⟨a4, c4, rfl, blk_cell st.1 2 _ rfl, blk_frozen st.1 2, st.2.1, (HU2.out.trans (Below_beside hWx hb2)).trans st.2.2⟩
          have q2a : ∀ o, (w2.alloc o).cell? ⟨B, 2, none⟩ = some (.slice an s.names.length cn) := fun o => blk_cell (HO2.out.up (up_al (Below.refl _ _) o)).2.1 2 _ rfl
          go_upto_region 8 with fail
          go_cut [33] from 20 to 48 (fun s33 wx => Hid (OwnS wx base B { s with names := insN s.names r (name, s.next) } ∧ Beside base B w wx))
          case first =>
            go_region_with ((go_at_call 177; refine (HC.out _ _ (up_dr (up_al (Below.refl _ _) _)) (blk_new w2 _) (Nat.le_refl _)).mono ?_; rintro e w' ⟨a4, c4, rfl, z2, zf, hs⟩))
            all_goals
              go_wp2_with fail
              go_meet
              case rel => exact hs
          case rest =>
          have HS3 : Hid (OwnS wc base B { s with names := insN s.names r (name, s.next) } ∧ Beside base B w wc) := hcut
          clear q1 q2 q4 q2a hcut
          have hb3 : base ≤ wc.heap.size := Nat.le_trans hbase HS3.out.2.size
          obtain ⟨af3, cf3, an3, cn3, as3, cs3, m3, hO3⟩ := HS3.out.1.open
          have hm3 : m3.length = s.files.length := by
            have := congrArg List.length hO3.2.2.1
            simpa using this
          obtain ⟨W, hW⟩ : ∃ W, W = (wc.alloc (.cells #[.int .i64 s.next, .slice none 0 0, .int .i64 0] 110)).drew := ⟨_, rfl⟩
          have uW : Below wc.heap.size wc W := by rw [hW]; exact up_dr (up_al (Below.refl _ _) _)
          have oW := hO3.up uW
          have bW : W.heap[wc.heap.size]? = some (.cells #[.int .i64 s.next, .slice none 0 0, .int .i64 0] 110) := by rw [hW]; exact blk_new wc _
          have hbW : base ≤ W.heap.size := Nat.le_trans hb3 uW.size
          obtain ⟨v', w4, hr4, ho4, hg4, hn4⟩ := run_append_near W 32 32 110 (.agg #[.int .i64 0, .slice none 0 0, .int .i64 0]) 3 40 Tryz.underlying32 Tryz.info110 rfl (by decide) base _ (m3.map frow) oW.2.2.2.1.1 ⟨wc.heap.size, 0, none⟩ 1 1 [[.int .i64 s.next, .slice none 0 0, .int .i64 0]] (by intro cs hcs; simp at hcs; subst hcs; rfl) rfl (by
              intro j u hj
              rw [Addr.add_lit, Nat.zero_add]
              exact blk_cell bW j u (by simpa using hj)) (by
              intro cs hcs u hu
              simp at hcs
              subst hcs
              simp at hu
              rcases hu with rfl | rfl | rfl <;> rfl) (by rw [List.length_map]; have := hF.1; omega) (by rw [List.length_map]; unfold maxLen; have := hF.1; omega) hbW
          have st4 := oW.addFile hbW s.next (by unfold In64; omega) hg4 ho4
          obtain ⟨a4, c4, e4, _, _⟩ := (Rws.own ho4).len
          rw [List.length_append, List.length_map] at e4
          simp only [List.length_cons, List.length_nil, Nat.zero_add] at e4
          subst e4
          have HS4 : Hid (OwnS (w4.setCell ⟨B, 1, none⟩ (.slice a4 (m3.length + 1) c4)) base B { s with names := insN s.names r (name, s.next), files := s.files ++ [(s.next, [], 0)] } ∧ Beside base B w (w4.setCell ⟨B, 1, none⟩ (.slice a4 (m3.length + 1) c4))) := ⟨st4.2.1, (HS3.out.2.trans (Below_beside uW hb3)).trans st4.2.2⟩
          have q1 := blk_cell hO3.2.1 1 _ rfl
          have q4 := blk_cell hO3.2.1 4 _ rfl
          have q1a : ∀ o, (wc.alloc o).cell? ⟨B, 1, none⟩ = some (.slice af3 m3.length cf3) := fun o => blk_cell (hO3.up (up_al (Below.refl _ _) o)).2.1 1 _ rfl
          have z1 := blk_cell st4.1 1 _ rfl
          have zf := blk_frozen st4.1 1
          rw [hW] at hr4
          simp only at q1 q4 z1
          clear hO3 oW bW hbW ho4 hg4 hn4 st4 uW hW hm3
          go_upto_region 9 with fail
          go_cut [49] from 20 to 62 (fun s49 wx => Hid (OwnS wx base B { s with names := insN s.names r (name, s.next), files := s.files ++ [(s.next, [], 0)] } ∧ Beside base B w wx))
          case first =>
            go_region_law (refine step_known rfl (exec_append (d := .tmp 53) (s := .tmp 59) (t := 32) (t' := 32) rfl (by simp [Act.eval, Act.put]) (by simp [Act.eval, Act.put]) hr4) ?_)
            all_goals
              go_wp2_with fail
              go_meet
              case rel => exact HS4
          case rest =>
          have HS5 : Hid (OwnS wc base B { s with names := insN s.names r (name, s.next), files := s.files ++ [(s.next, [], 0)] } ∧ Beside base B w wc) := hcut
          clear q1 q4 q1a z1 zf hr4 hcut
          have hb5 : base ≤ wc.heap.size := Nat.le_trans hbase HS5.out.2.size
          obtain ⟨af5, cf5, an5, cn5, as5, cs5, m5, hO5⟩ := HS5.out.1.open
          have q4 := blk_cell hO5.2.1 4 _ rfl
          have f4 := blk_frozen hO5.2.1 4
          have st5 := hO5.setNext hb5 (s.next + 1) (by unfold In64; omega)
          have HS6 : Hid (OwnS (wc.setCell ⟨B, 4, none⟩ (.int .i64 (s.next + 1))) base B { s with names := insN s.names r (name, s.next), files := s.files ++ [(s.next, [], 0)], next := s.next + 1 } ∧ Beside base B w (wc.setCell ⟨B, 4, none⟩ (.int .i64 (s.next + 1)))) := ⟨st5.1, HS5.out.2.trans st5.2⟩
          simp only at q4
          clear hO5 st5
          go_wp2_with fail
          go_ret
          rw [HR.out]
          exact ⟨rfl, HS6.out⟩
end Go.Proofs.YtnchjlimkgbfpaaGreatDoor
