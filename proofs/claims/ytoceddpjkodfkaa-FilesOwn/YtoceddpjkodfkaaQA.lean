/- Acts that change a file, walked: sync, append. -/
import Derived.Test.YtoceddpjkodfkaaQ9
namespace Go.Proofs.Ytoceddpjkodfkaa
open Go.RowKit
set_option linter.unusedVariables false
set_option linter.unusedSimpArgs false

def idN (s : St) (name : List Int) : Int := (s.names.getD (rankN s.names name) ([], 0)).2
def hasF (s : St) (name : List Int) : Bool := thereN s.names name && thereF s.files (idN s name)
def idxF (s : St) (name : List Int) : Nat := rankF s.files (idN s name)
def fileD (s : St) (i : Nat) : Int × List Int × Int := s.files.getD i (0, [], 0)

def syncP (s : St) (name : List Int) : St × Int := if hasF s name then ({ s with files := s.files.set (idxF s name) ((fileD s (idxF s name)).1, (fileD s (idxF s name)).2.1, ((fileD s (idxF s name)).2.1.length : Int)) }, 0) else (s, 71)
def extendP (s : St) (name data : List Int) : St × Int :=
  if hasF s name then
    if s.cap - usedOf s.files < (data.length : Int) then (s, 51) else ({ s with files := s.files.set (idxF s name) ((fileD s (idxF s name)).1, (fileD s (idxF s name)).2.1 ++ data, (fileD s (idxF s name)).2.2) }, 0)
  else (s, 71)

theorem used_ge : ∀ (l : List (Int × List Int × Int)) (i : Nat), i < l.length → ((l.getD i (0, [], 0)).2.1.length : Int) ≤ usedOf l
  | [], i, h => by simp at h
  | x :: l, 0, _ => by
    have := used_pos l
    simp only [usedOf, List.map_cons, List.sum_cons] at this ⊢
    simp
    omega
  | x :: l, i + 1, h => by
    have := used_ge l i (by simpa using h)
    simp only [usedOf, List.map_cons, List.sum_cons] at this ⊢
    simp at this ⊢
    omega

theorem idx_lt {s : St} {name : List Int} (h : hasF s name = true) : idxF s name < s.files.length := by
  unfold hasF thereF at h
  simp only [Bool.and_eq_true, decide_eq_true_eq] at h
  exact h.2.1

theorem OpenS.rowAt {w : World} {base B : Nat} {s : St} {af : Option Addr} {cf : Nat} {an : Option Addr} {cn : Nat} {as' : Option Addr} {cs' : Nat} {m : List FRow} (h : OpenS w base B s af cf an cn as' cs' m) (i : Nat) (hi : i < s.files.length) :
    i < m.length ∧ (∃ g, af = some ⟨g, 0, none⟩) ∧ (m.getD i noF).2 = fileD s i ∧ ∃ a c, (m.getD i noF).1 = .slice a (fileD s i).2.1.length c := by
  have hl : m.length = s.files.length := by
    have := congrArg List.length h.2.2.1
    simpa using this
  have him : i < m.length := by omega
  have e : (m.getD i noF).2 = fileD s i := by
    unfold fileD
    rw [← h.2.2.1]
    simp [List.getD, him]
  refine ⟨him, ?_, e, ?_⟩
  · rcases h.2.2.2.1.1.2.2 with ⟨e2, e3⟩ | ⟨g, cap', cur, e2, _⟩
    · rw [List.length_map] at e3; omega
    · simp at e2
      exact ⟨g, e2.1⟩
  · have hm : m.getD i noF ∈ m := by simp [List.getD, him]
    have h1 := h.2.2.2.1.2.1 _ hm
    obtain ⟨a, c, e1, _⟩ := (Octs.own h1.1 h1.2.1).slice
    rw [e] at e1
    exact ⟨a, c, e1⟩

theorem OpenS.cells3 {w : World} {base B : Nat} {s : St} {g cf : Nat} {an : Option Addr} {cn : Nat} {as' : Option Addr} {cs' : Nat} {m : List FRow} (h : OpenS w base B s (some ⟨g, 0, none⟩) cf an cn as' cs' m) (i : Nat) (hi : i < m.length) :
    w.cell? ⟨g, i * 3, none⟩ = some (.int .i64 (m.getD i noF).2.1) ∧ w.cell? ⟨g, i * 3 + 1, none⟩ = some (m.getD i noF).1 ∧ w.cell? ⟨g, i * 3 + 2, none⟩ = some (.int .i64 (m.getD i noF).2.2.2) ∧ ∀ q, w.frozen? ⟨g, q, none⟩ = false := by
  obtain ⟨b, off, cap, e, _, _, hc⟩ := (Rws.own h.2.2.2.1.1).at i (by rw [List.length_map]; exact hi)
  simp at e
  obtain ⟨⟨rfl, rfl⟩, _⟩ := e
  have hr : (m.map frow).getD i [] = frow (m.getD i noF) := by simp [List.getD, hi]
  rw [hr] at hc
  have c0 := hc 0 _ rfl
  have c1 := hc 1 _ rfl
  have c2 := hc 2 _ rfl
  simp only [Nat.zero_add, Nat.add_zero] at c0 c1 c2
  refine ⟨c0, c1, c2, fun q => ?_⟩
  obtain ⟨cur, hh, _⟩ := h.2.2.2.1.1.blk
  exact blk_frozen hh q

theorem map_set_snd (m : List FRow) (i : Nat) (y : FRow) : (m.set i y).map (·.2) = (m.map (·.2)).set i y.2 := by rw [List.map_set]

/-- A file's row was written: w1 is w but for blocks of the file's octets, then the row's block. -/
theorem OpenS.setFile {w w1 : World} {base B : Nat} {s : St} {g cf : Nat} {an : Option Addr} {cn : Nat} {as' : Option Addr} {cs' : Nat} {m : List FRow} (h : OpenS w base B s (some ⟨g, 0, none⟩) cf an cn as' cs' m) (hbase : base ≤ w.heap.size) (i : Nat) (hi : i < m.length) {r : Option Nat} (hg : w.grownBy w1 r) (hr : r = none ∨ r = (m.getD i noF).1.ownBlock)
    (k : Nat) (u : Value) (y : FRow) (hf : OwnF (w1.setCell ⟨g, k, none⟩ u) base (.slice (some ⟨g, 0, none⟩) m.length cf) (m.set i y)) : OwnS (w1.setCell ⟨g, k, none⟩ u) base B { s with files := s.files.set i y.2 } ∧ Beside base B w (w1.setCell ⟨g, k, none⟩ u) := by
  obtain ⟨hB, hb, hm, of, on, os, hap, hi1, hi2⟩ := h
  have hmem : m.getD i noF ∈ m := by simp [List.getD, hi]
  have hd := (of.2.1 _ hmem).1
  have ne1 : ∀ {e : TypeId} {sz : Nat} {v : Value} {n : Nat} {xs : List Value}, w.ownsRow base e sz v n xs → e ≠ 5 → v.ownBlock = none ∨ v.ownBlock ≠ r := by
    intro e sz v n xs ho he
    rcases hr with q | q
    · rw [q]
      cases v.ownBlock with
      | none => exact .inl rfl
      | some b => exact .inr (by simp)
    · rw [q]
      exact own_own_ne ho hd he
  have nB : some B ≠ r := by
    rcases hr with q | q
    · rw [q]; simp
    · rw [q]
      have := own_blk_ne hd hb (by decide)
      rcases this with q | q
      · rw [q]; simp
      · exact fun e => q e.symm
  have b1 := blk_grown hb hg nB
  have on1 := on.far hg (ne1 on.2.2 (by decide))
  have os1 := os.far hg (ne1 os.2.2 (by decide))
  have of1 := of.1.far hg (ne1 of.1.2 (by decide))
  have g5 := grown_set w1 ⟨g, k, none⟩ u
  have hgb := of.1.2.lt g rfl
  have nBg : some B ≠ some g := by
    have := own_blk_ne of1.2 b1 (by decide)
    simp [Value.ownBlock] at this
    intro q
    injection q with q
    exact this q.symm
  refine ⟨⟨hB, _, _, _, m.set i y, blk_grown b1 g5 nBg, ?_, ?_, on1.far g5 (own_own_ne on1.2.2 of1.2 (by decide)), os1.far g5 (own_own_ne os1.2.2 of1.2 (by decide)), hap, hi1, hi2⟩, ?_⟩
  · rw [map_set_snd, hm]
  · exact hf
  · refine ((Beside.refl base B w).grown hg hbase (fun j hj => ?_)).grown g5 (Nat.le_trans hbase hg.size) (fun j hj => by injection hj with hj; rw [← hj]; exact .inl hgb.1)
    rcases hr with q | q
    · rw [q] at hj; cases hj
    · rw [q] at hj; exact .inl (hd.lt j hj).1

set_option maxHeartbeats 1000000 in
theorem syncFile_any (s : St) (name : List Int) (hna : OctL name) (base B : Nat) (w : World) (hS : OwnS w base B s) (hF : Fine s) (hbase : base ≤ w.heap.size) :
    Calls Try.prog 60 #[.pointer (some ⟨B, 0, none⟩), .string (strOfNums name)] w fun e w' => e = .returned (.int .i64 (syncP s name).2) ∧ OwnS w' base B (syncP s name).1 ∧ Beside base B w w' := by
  obtain ⟨af, cf, an, cn, as', cs', m, hO⟩ := hS.open
  have HO : Hid (OpenS w base B s af cf an cn as' cs' m) := hO
  have q0 := blk_cell hO.2.1 0 _ rfl
  have q1 := blk_cell hO.2.1 1 _ rfl
  have q2 := blk_cell hO.2.1 2 _ rfl
  have q3 := blk_cell hO.2.1 3 _ rfl
  have q4 := blk_cell hO.2.1 4 _ rfl
  clear hO hS
  have hfw : FilesW w (.slice af m.length cf) s.files := by rw [← HO.out.2.2.1]; exact FilesW.own HO.out.2.2.2.1
  have hc := file_any s.files s.names name hna (.int .i64 s.cap) _ _ (.slice as' s.safe.length cs') (.int .i64 s.next) w hfw (NamesW.own HO.out.2.2.2.2.1) (by have := hF.1; omega) (by have := hF.2.1; omega) hF.2.2.2.2 hF.2.2.2.1
  clear hfw
  have eh : (thereN s.names name && thereF s.files (s.names.getD (rankN s.names name) ([], 0)).2) = hasF s name := rfl
  rw [eh] at hc
  cases hth : hasF s name with
  | false =>
    have HR : Hid (syncP s name = (s, 71)) := by unfold Hid syncP; rw [hth]; rfl
    rw [hth] at hc
    clear hth eh
    generalize (if thereN s.names name = true then ((rankF s.files (s.names.getD (rankN s.names name) ([], 0)).2 : Nat) : Int) else 0) = ix at hc
    go_enter Try.func60, Try.ntmps60
    go_wp2_with fail
    refine hc.mono ?_
    rintro e w1 ⟨rfl, u1⟩
    have HU : Hid (Below w.heap.size w w1) := u1
    clear u1 hc q0 q1 q2 q3 q4
    go_wp2_with fail
    go_ret
    rw [HR.out]
    exact ⟨rfl, (HO.out.up HU.out).shut, Below_beside HU.out hbase⟩
  | true =>
    have HR : Hid (syncP s name = ({ s with files := s.files.set (idxF s name) ((fileD s (idxF s name)).1, (fileD s (idxF s name)).2.1, ((fileD s (idxF s name)).2.1.length : Int)) }, 0)) := by unfold Hid syncP; rw [hth]; rfl
    have hlt := idx_lt hth
    have ei : (if thereN s.names name = true then ((rankF s.files (s.names.getD (rankN s.names name) ([], 0)).2 : Nat) : Int) else 0) = ((idxF s name : Nat) : Int) := by
      have h1 : thereN s.names name = true := by
        unfold hasF at hth
        rw [Bool.and_eq_true] at hth
        exact hth.1
      rw [if_pos h1]
      rfl
    rw [hth, ei] at hc
    clear hth eh ei
    generalize idxF s name = i at *
    obtain ⟨him, ⟨g, rfl⟩, e2, au, cu, eu⟩ := HO.out.rowAt i hlt
    have hii : (i : Int) < (m.length : Int) := by omega
    go_enter Try.func60, Try.ntmps60
    go_wp2_with fail
    refine hc.mono ?_
    rintro e w1 ⟨rfl, u1⟩
    have HO1 : Hid (OpenS w1 base B s (some ⟨g, 0, none⟩) cf an cn as' cs' m) := HO.out.up u1
    have HU : Hid (Beside base B w w1) := Below_beside u1 hbase
    have hb1 : base ≤ w1.heap.size := Nat.le_trans hbase u1.size
    clear u1 hc q0 q1 q2 q3 q4
    have q1 := blk_cell HO1.out.2.1 1 _ rfl
    obtain ⟨k0, k1, k2, fz⟩ := HO1.out.cells3 i him
    have f2 := fz (i * 3 + 2)
    rw [eu] at k1
    have hlen : (fileD s i).2.1.length ≤ 140737488355328 := by
      have hm : m.getD i noF ∈ m := by simp [List.getD, him]
      have := (HO1.out.2.2.2.1.2.1 _ hm).2.2.1
      rw [e2] at this
      exact this
    have hsf := HO1.out.2.2.2.1.sync rfl i him ((fileD s i).2.1.length : Int) (by unfold In64; omega)
    have hst := HO1.out.setFile hb1 i him (grown_refl w1 none) (.inl rfl) _ _ _ hsf
    rw [e2] at hst
    have HS : Hid (OwnS (w1.setCell ⟨g, i * 3 + 2, none⟩ (.int .i64 ((fileD s i).2.1.length : Int))) base B { s with files := s.files.set i ((fileD s i).1, (fileD s i).2.1, ((fileD s i).2.1.length : Int)) } ∧ Beside base B w (w1.setCell ⟨g, i * 3 + 2, none⟩ (.int .i64 ((fileD s i).2.1.length : Int)))) := ⟨hst.1, HU.out.trans hst.2⟩
    clear hsf hst e2 eu fz
    generalize hk : (m.getD i noF).2.2.2 = sy at k2
    clear hk k0
    generalize hfd : (fileD s i).2.1 = d at *
    clear hfd
    go_wp2_with fail
    go_region
    all_goals
      go_wp2_with fail
      go_ret
      rw [HR.out]
      exact ⟨rfl, HS.out.1.up (up_dr (Below.refl _ _)), HS.out.2.drew⟩

set_option maxHeartbeats 1000000 in
set_option maxRecDepth 4000 in
theorem extend_any (s : St) (name data : List Int) (hna : OctL name) (vd : Value) (base B : Nat) (w : World) (hS : OwnS w base B s) (hF : Fine s) (hvd : Octs w vd data) (hcap : 0 ≤ s.cap ∧ s.cap ≤ 16777216) (hbase : base ≤ w.heap.size) :
    Calls Try.prog 59 #[.pointer (some ⟨B, 0, none⟩), .string (strOfNums name), vd] w fun e w' => e = .returned (.int .i64 (extendP s name data).2) ∧ OwnS w' base B (extendP s name data).1 ∧ Beside base B w w' := by
  obtain ⟨af, cf, an, cn, as', cs', m, hO⟩ := hS.open
  have HO : Hid (OpenS w base B s af cf an cn as' cs' m) := hO
  have q0 := blk_cell hO.2.1 0 _ rfl
  have q1 := blk_cell hO.2.1 1 _ rfl
  have q2 := blk_cell hO.2.1 2 _ rfl
  have q3 := blk_cell hO.2.1 3 _ rfl
  have q4 := blk_cell hO.2.1 4 _ rfl
  clear hO hS
  have hfw : FilesW w (.slice af m.length cf) s.files := by rw [← HO.out.2.2.1]; exact FilesW.own HO.out.2.2.2.1
  have hc := file_any s.files s.names name hna (.int .i64 s.cap) _ _ (.slice as' s.safe.length cs') (.int .i64 s.next) w hfw (NamesW.own HO.out.2.2.2.2.1) (by have := hF.1; omega) (by have := hF.2.1; omega) hF.2.2.2.2 hF.2.2.2.1
  clear hfw
  have eh : (thereN s.names name && thereF s.files (s.names.getD (rankN s.names name) ([], 0)).2) = hasF s name := rfl
  rw [eh] at hc
  cases hth : hasF s name with
  | false =>
    have HR : Hid (extendP s name data = (s, 71)) := by unfold Hid extendP; rw [hth]; rfl
    rw [hth] at hc
    clear hth eh
    generalize (if thereN s.names name = true then ((rankF s.files (s.names.getD (rankN s.names name) ([], 0)).2 : Nat) : Int) else 0) = ix at hc
    go_enter Try.func59, Try.ntmps59
    go_wp2_with fail
    refine hc.mono ?_
    rintro e w1 ⟨rfl, u1⟩
    have HU : Hid (Below w.heap.size w w1) := u1
    clear u1 hc q0 q1 q2 q3 q4
    go_wp2_with fail
    go_ret
    rw [HR.out]
    exact ⟨rfl, (HO.out.up HU.out).shut, Below_beside HU.out hbase⟩
  | true =>
    have HR : Hid (extendP s name data = if s.cap - usedOf s.files < (data.length : Int) then (s, 51) else ({ s with files := s.files.set (idxF s name) ((fileD s (idxF s name)).1, (fileD s (idxF s name)).2.1 ++ data, (fileD s (idxF s name)).2.2) }, 0)) := by unfold Hid extendP; rw [hth]; rfl
    have hlt := idx_lt hth
    have ei : (if thereN s.names name = true then ((rankF s.files (s.names.getD (rankN s.names name) ([], 0)).2 : Nat) : Int) else 0) = ((idxF s name : Nat) : Int) := by
      have h1 : thereN s.names name = true := by
        unfold hasF at hth
        rw [Bool.and_eq_true] at hth
        exact hth.1
      rw [if_pos h1]
      rfl
    rw [hth, ei] at hc
    clear hth eh ei
    generalize idxF s name = i at *
    obtain ⟨him, ⟨g, rfl⟩, e2, au, cu, eu⟩ := HO.out.rowAt i hlt
    have hii : (i : Int) < (m.length : Int) := by omega
    have HVD : Hid (Octs w vd data) := hvd
    obtain ⟨ad, cd, evd, _⟩ := hvd.slice
    subst evd
    clear hvd
    have hup := used_pos s.files
    have hus := used_le s.files (by
      have := FilesW.own HO.out.2.2.2.1
      rw [HO.out.2.2.1] at this
      exact this.data)
    have hfl := hF.1
    obtain ⟨hcap0, hcap1⟩ := hcap
    go_enter Try.func59, Try.ntmps59
    go_wp2_with fail
    refine hc.mono ?_
    rintro e w1 ⟨rfl, u1⟩
    have HO1 : Hid (OpenS w1 base B s (some ⟨g, 0, none⟩) cf an cn as' cs' m) := HO.out.up u1
    have HU : Hid (Beside base B w w1) := Below_beside u1 hbase
    have HVD1 : Hid (Octs w1 (.slice ad data.length cd) data) := HVD.out.up u1
    have hb1 : base ≤ w1.heap.size := Nat.le_trans hbase u1.size
    clear u1 hc q0 q1 q2 q3 q4
    have q0 := blk_cell HO1.out.2.1 0 _ rfl
    have q1 := blk_cell HO1.out.2.1 1 _ rfl
    have p0 := cell_up q0
    have p1 := cell_up q1
    have HFW : Hid (FilesW w1 (.slice (some ⟨g, 0, none⟩) m.length cf) s.files) := by
      unfold Hid
      rw [← HO1.out.2.2.1]
      exact FilesW.own HO1.out.2.2.2.1
    have HU2 : Hid (∃ us, us = usedOf s.files) := ⟨_, rfl⟩
    obtain ⟨us, hus2⟩ := HU2.out
    have HUs : Hid (us = usedOf s.files) := hus2
    rw [← hus2] at hup hus HR
    clear hus2 HU2
    have hwr : IntKind.i64.wrap (s.cap - us) = s.cap - us := by rw [IntKind.wrap_i64]; omega
    have HCU : Hid (∀ p : UpW w1, Calls Try.prog 69 #[.slice (some ⟨g, 0, none⟩) m.length cf] p.val fun e w' => e = .returned (.int .i64 us) ∧ Below p.val.heap.size p.val w') := by
      intro p
      rw [HUs.out]
      exact used_any s.files _ _ (HFW.out.up p.up) hfl
    go_wp2_with fail
    refine wp_region_up (by kernel_rfl) (by kernel_rfl) ?_
    repeat
      (with_reducible refine wpQuiet_step (fun K hK => ?_)
       go_simp
       first
         | (refine hK _ ?_; clear hK K)
         | (apply Exists.intro; refine ⟨fun _ => ?_, hK _ ?_⟩; go_at_call 69; refine calls_up (HCU.out _); clear hK K))
    with_reducible refine wpQuiet_nil ?_
    intro _ hw'
    obtain ⟨p, hw''⟩ := hw'
    subst hw''
    have HO2 : Hid (OpenS p.val base B s (some ⟨g, 0, none⟩) cf an cn as' cs' m) := HO1.out.up p.up
    have HU2 : Hid (Beside base B w p.val) := HU.out.trans (Below_beside p.up hb1)
    have HVD2 : Hid (Octs p.val (.slice ad data.length cd) data) := HVD1.out.up p.up
    have hb2 : base ≤ p.val.heap.size := Nat.le_trans hb1 p.up.size
    clear HCU HFW p0 p1 q0 q1 HVD1 HO1 HVD
    generalize p.val = w2 at *
    by_cases hfull : s.cap - us < (data.length : Int)
    · rw [if_pos hfull] at HR
      go_wp2_with fail
      go_ret
      rw [HR.out]
      exact ⟨rfl, HO2.out.shut, HU2.out⟩
    · rw [if_neg hfull] at HR
      have q1 := blk_cell HO2.out.2.1 1 _ rfl
      obtain ⟨k0, k1, k2, fz⟩ := HO2.out.cells3 i him
      have f1 := fz (i * 3 + 1)
      rw [eu] at k1
      have hm : m.getD i noF ∈ m := by simp [List.getD, him]
      have hrow := HO2.out.2.2.2.1.2.1 _ hm
      have hdl : (fileD s i).2.1.length ≤ 140737488355328 := by
        have := hrow.2.2.1
        rw [e2] at this
        exact this
      have hle : ((fileD s i).2.1.length : Int) ≤ us := by
        rw [HUs.out]
        exact used_ge s.files i hlt
      have ho := hrow.1
      rw [eu, e2] at ho
      obtain ⟨v', w3, hr, ho3, hg3, hn3⟩ := run_append_octs_near w2.drew 26 base _ _ _ data (show OwnB w2.drew base _ _ from ho) (show Octs w2.drew _ _ from HVD2.out) (by omega) hb2
      obtain ⟨a3, c3, e3, _⟩ := (Octs.own ho3 (by
        intro x hx
        rcases List.mem_append.1 hx with q | q
        · have := hrow.2.1
          rw [e2] at this
          exact this x q
        · exact HVD2.out.1 x q)).slice
      subst e3
      have hG : w2.grownBy w3 (Value.ownBlock (.slice au (fileD s i).2.1.length cu)) := ⟨hg3.os, hg3.tape, hg3.output, hg3.size, hg3.block⟩
      have hg4 : w2.grownBy w3 (m.getD i noF).1.ownBlock := by rw [eu]; exact hG
      have hn4 : Near w2 (m.getD i noF).1 (.slice a3 ((fileD s i).2.1 ++ data).length c3) := by rw [eu]; exact hn3
      have hsf := HO2.out.2.2.2.1.data rfl i him ho3 hg4 hn4 ⟨by
        intro x hx
        rcases List.mem_append.1 hx with q | q
        · have := hrow.2.1
          rw [e2] at this
          exact this x q
        · exact HVD2.out.1 x q, by rw [List.length_append]; omega⟩
      have hst := HO2.out.setFile hb2 i him hg4 (.inr rfl) _ _ _ hsf
      rw [e2] at hst
      have HS : Hid (OwnS (w3.setCell ⟨g, i * 3 + 1, none⟩ (.slice a3 ((fileD s i).2.1 ++ data).length c3)) base B { s with files := s.files.set i ((fileD s i).1, (fileD s i).2.1 ++ data, (fileD s i).2.2) } ∧ Beside base B w (w3.setCell ⟨g, i * 3 + 1, none⟩ (.slice a3 ((fileD s i).2.1 ++ data).length c3))) := ⟨hst.1, HU2.out.trans hst.2⟩
      have hR3 := HO2.out.2.2.2.1.1.far hg4 (own_own_ne HO2.out.2.2.2.1.1.2 hrow.1 (by decide))
      have z1 : w3.cell? ⟨B, 1, none⟩ = some (.slice (some ⟨g, 0, none⟩) m.length cf) := by
        refine hg4.cell q1 ?_
        have := own_blk_ne hrow.1 HO2.out.2.1 (by decide)
        intro q
        rcases this with r | r
        · rw [r] at q; cases q
        · exact r q.symm
      have zne : some g ≠ (m.getD i noF).1.ownBlock := by
        have := own_own_ne HO2.out.2.2.2.1.1.2 hrow.1 (by decide)
        rcases this with r | r
        · simp [Value.ownBlock] at r
        · exact r
      have z2 : w3.cell? ⟨g, i * 3 + 1, none⟩ = some (.slice au (fileD s i).2.1.length cu) := hg4.cell k1 zne
      have z3 : w3.frozen? ⟨g, i * 3 + 1, none⟩ = false := by
        obtain ⟨cur, hh, _⟩ := hR3.blk
        exact blk_frozen hh _
      clear hsf hst e2 eu fz hrow ho ho3 hg3 hn3 hG hg4 hn4 hR3 zne k0 k2 hm
      rw [List.length_append] at hr HS
      generalize hfd : (fileD s i).2.1.length = dl at *
      clear hfd
      go_wp2_with fail
      go_region_law (refine step_known rfl (exec_append (d := .tmp 44) (s := .tmp 45) (t := 26) (t' := 26) rfl (by simp [Act.eval, Act.put]) (by simp [Act.eval, Act.put]) hr) ?_)
      all_goals
        go_wp2_with fail
        go_ret
        rw [HR.out]
        exact ⟨rfl, HS.out⟩
end Go.Proofs.Ytoceddpjkodfkaa
