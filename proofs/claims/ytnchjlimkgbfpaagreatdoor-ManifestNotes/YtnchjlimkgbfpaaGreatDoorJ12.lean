/- The texts Q8, Q9, in this order. -/
import Derived.Test.YtnchjlimkgbfpaaGreatDoorJ11

namespace Go.Proofs.YtnchjlimkgbfpaaGreatDoor
open Go.RowKit
set_option linter.unusedVariables false
set_option maxRecDepth 20000
def OpenS (w : World) (base B : Nat) (s : St) (af : Option Addr) (cf : Nat) (an : Option Addr) (cn : Nat) (as' : Option Addr) (cs' : Nat) (m : List FRow) : Prop :=
  True ∧ w.heap[B]? = some (.cells #[.int .i64 s.cap, .slice af m.length cf, .slice an s.names.length cn, .slice as' s.safe.length cs', .int .i64 s.next] 35) ∧ m.map (·.2) = s.files ∧ OwnF w base (.slice af m.length cf) m ∧
    OwnN w base 146 (.slice an s.names.length cn) s.names ∧ OwnN w base 146 (.slice as' s.safe.length cs') s.safe ∧ Apart (.slice an s.names.length cn) (.slice as' s.safe.length cs') ∧ In64 s.cap ∧ In64 s.next
theorem OwnS.open {w : World} {base B : Nat} {s : St} (h : OwnS w base B s) : ∃ af cf an cn as' cs' m, OpenS w base B s af cf an cn as' cs' m := by
  obtain ⟨hB, vf, vn, vs, m, hb, hm, of, on, os, hap, hi1, hi2⟩ := h
  obtain ⟨a1, c1, e1, _, _⟩ := (NamesW.own on).len
  obtain ⟨a2, c2, e2, _, _⟩ := (NamesW.own os).len
  obtain ⟨a3, c3, e3, _, _⟩ := (Rws.own of.1).len
  rw [List.length_map] at e3
  subst e1
  subst e2
  subst e3
  exact ⟨_, _, _, _, _, _, m, hB, hb, hm, of, on, os, hap, hi1, hi2⟩
theorem OpenS.shut {w : World} {base B : Nat} {s : St} {af : Option Addr} {cf : Nat} {an : Option Addr} {cn : Nat} {as' : Option Addr} {cs' : Nat} {m : List FRow} (h : OpenS w base B s af cf an cn as' cs' m) : OwnS w base B s := by
  obtain ⟨hB, hb, hm, of, on, os, hap, hi1, hi2⟩ := h
  exact ⟨hB, _, _, _, m, hb, hm, of, on, os, hap, hi1, hi2⟩
theorem OpenS.up {w w' : World} {base B : Nat} {s : St} {af : Option Addr} {cf : Nat} {an : Option Addr} {cn : Nat} {as' : Option Addr} {cs' : Nat} {m : List FRow} (h : OpenS w base B s af cf an cn as' cs' m) (hb : Below w.heap.size w w') : OpenS w' base B s af cf an cn as' cs' m := by
  obtain ⟨hB, h1, hm, of, on, os, hap, hi1, hi2⟩ := h
  exact ⟨hB, blk_up h1 hb, hm, of.up hb, on.up hb, os.up hb, hap, hi1, hi2⟩
theorem OpenS.setNames {w w1 : World} {base B : Nat} {s : St} {af : Option Addr} {cf : Nat} {an : Option Addr} {cn : Nat} {as' : Option Addr} {cs' : Nat} {m : List FRow} (h : OpenS w base B s af cf an cn as' cs' m) (hbase : base ≤ w.heap.size) {v' : Value} {l' : List (List Int × Int)}
    (hg : w.grownBy w1 (Value.ownBlock (.slice an s.names.length cn))) (hn : Near w (.slice an s.names.length cn) v') (ho : OwnN w1 base 146 v' l') :
    w1.heap[B]? = some (.cells #[.int .i64 s.cap, .slice af m.length cf, .slice an s.names.length cn, .slice as' s.safe.length cs', .int .i64 s.next] 35) ∧ OwnS (w1.setCell ⟨B, 2, none⟩ v') base B { s with names := l' } ∧ Beside base B w (w1.setCell ⟨B, 2, none⟩ v') := by
  obtain ⟨hB, hb, hm, of, on, os, hap, hi1, hi2⟩ := h
  have nB : some B ≠ Value.ownBlock (.slice an s.names.length cn) := by
    have := own_blk_ne on.2.2 hb (by decide)
    rcases this with q | q
    · rw [q]; simp
    · exact fun e => q e.symm
  have b1 := blk_grown hb hg nB
  have of1 := of.far hg (own_own_ne of.1.2 on.2.2 (by decide)) (fun y hy => own_own_ne (of.2.1 y hy).1 on.2.2 (by decide))
  have os1 := os.far hg hap.symm
  have g5 := grown_set w1 ⟨B, 2, none⟩ v'
  refine ⟨b1, ⟨hB, _, _, _, m, blk_set b1 2 v', hm, ?_, ?_, ?_, hn.apart hap os.2.2, hi1, hi2⟩, ?_⟩
  · exact of1.far g5 (own_blk_ne of1.1.2 b1 (by decide)) (fun y hy => own_blk_ne (of1.2.1 y hy).1 b1 (by decide))
  · exact ho.far g5 (own_blk_ne ho.2.2 b1 (by decide))
  · exact os1.far g5 (own_blk_ne os1.2.2 b1 (by decide))
  · refine ((Beside.refl base B w).grown hg hbase (fun k hk => .inl (on.2.2.lt k hk).1)).grown g5 (Nat.le_trans hbase hg.size) (fun k hk => ?_)
    injection hk with hk
    rw [← hk]
    exact .inr rfl
theorem OpenS.setSafe {w w1 : World} {base B : Nat} {s : St} {af : Option Addr} {cf : Nat} {an : Option Addr} {cn : Nat} {as' : Option Addr} {cs' : Nat} {m : List FRow} (h : OpenS w base B s af cf an cn as' cs' m) (hbase : base ≤ w.heap.size) {v' : Value} {l' : List (List Int × Int)}
    (hg : Below w.heap.size w w1) (ho : OwnN w1 w.heap.size 146 v' l') :
    w1.heap[B]? = some (.cells #[.int .i64 s.cap, .slice af m.length cf, .slice an s.names.length cn, .slice as' s.safe.length cs', .int .i64 s.next] 35) ∧ OwnS (w1.setCell ⟨B, 3, none⟩ v') base B { s with safe := l' } ∧ Beside base B w (w1.setCell ⟨B, 3, none⟩ v') := by
  obtain ⟨hB, hb, hm, of, on, os, hap, hi1, hi2⟩ := h
  have b1 := blk_up hb hg
  have of1 := of.up hg
  have on1 := on.up hg
  have g5 := grown_set w1 ⟨B, 3, none⟩ v'
  refine ⟨b1, ⟨hB, _, _, _, m, blk_set b1 3 v', hm, ?_, ?_, ?_, apart_new on.2.2 ho.2.2, hi1, hi2⟩, ?_⟩
  · exact of1.far g5 (own_blk_ne of1.1.2 b1 (by decide)) (fun y hy => own_blk_ne (of1.2.1 y hy).1 b1 (by decide))
  · exact on1.far g5 (own_blk_ne on1.2.2 b1 (by decide))
  · exact (ho.mono hbase).far g5 (own_blk_ne ho.2.2 b1 (by decide))
  · refine (Below_beside hg hbase).grown g5 (Nat.le_trans hbase hg.size) (fun k hk => ?_)
    injection hk with hk
    rw [← hk]
    exact .inr rfl
def Fine (s : St) : Prop := s.files.length ≤ 256 ∧ s.names.length ≤ 256 ∧ s.safe.length ≤ 256 ∧ RiseN s.names ∧ RiseF s.files
def syncNamesP (s : St) : St := sweptOf { s with safe := s.names }
set_option maxHeartbeats 1000000 in
theorem syncNames_any (s : St) (base B : Nat) (w : World) (hS : OwnS w base B s) (hF : Fine s) (hbase : base ≤ w.heap.size) :
    Calls Tryz.prog 147 #[.pointer (some ⟨B, 0, none⟩)] w fun e w' => e = .returned (.int .i64 0) ∧ OwnS w' base B (syncNamesP s) ∧ Beside base B w w' := by
  obtain ⟨af, cf, an, cn, as', cs', m, hO⟩ := hS.open
  have HO : Hid (OpenS w base B s af cf an cn as' cs' m) := hO
  have q2 := blk_cell hO.2.1 2 _ rfl
  clear hO hS
  go_enter Tryz.func147, Tryz.ntmps147
  go_wp2_with fail
  refine (freshN_any s.names _ w (NamesW.own HO.out.2.2.2.2.1) (by have := hF.2.1; omega)).mono ?_
  rintro e w1 ⟨v', rfl, on1, u1⟩
  have hst := HO.out.setSafe hbase u1 on1
  obtain ⟨a4, c4, e4, _, _⟩ := (NamesW.own on1).len
  subst e4
  have q3 := blk_cell hst.1 3 _ rfl
  have f3 := blk_frozen hst.1 3
  have HS : Hid (OwnS (w1.setCell ⟨B, 3, none⟩ (.slice a4 s.names.length c4)) base B { s with safe := s.names } ∧ Beside base B w (w1.setCell ⟨B, 3, none⟩ (.slice a4 s.names.length c4))) := hst.2
  clear hst u1 on1 q2
  go_wp2_with fail
  refine (sweep_any { s with safe := s.names } base B _ HS.out.1 hF.1 hF.2.1 hF.2.1 (Nat.le_trans hbase HS.out.2.size)).mono ?_
  rintro e w2 ⟨rfl, hs2, hb2⟩
  have HS2 : Hid (OwnS w2 base B (syncNamesP s) ∧ Beside base B w w2) := ⟨hs2, HS.out.2.trans hb2⟩
  clear hs2 hb2 q3 f3
  go_wp2_with fail
  go_ret
  exact ⟨rfl, HS2.out⟩
def removeP (s : St) (name : List Int) : St × Int := if thereN s.names name then (sweptOf { s with names := s.names.eraseIdx (rankN s.names name) }, 0) else (s, 71)
theorem place_small {l : List (List Int × Int)} {t : List Int} (h : thereN l t = true) : rankN l t < l.length := lt_of_thereN h
set_option maxHeartbeats 1000000 in
theorem remove_any (s : St) (name : List Int) (hna : OctL name) (base B : Nat) (w : World) (hS : OwnS w base B s) (hF : Fine s) (hbase : base ≤ w.heap.size) :
    Calls Tryz.prog 146 #[.pointer (some ⟨B, 0, none⟩), .string (strOfNums name)] w fun e w' => e = .returned (.int .i64 (removeP s name).2) ∧ OwnS w' base B (removeP s name).1 ∧ Beside base B w w' := by
  obtain ⟨af, cf, an, cn, as', cs', m, hO⟩ := hS.open
  have HO : Hid (OpenS w base B s af cf an cn as' cs' m) := hO
  have q2 := blk_cell hO.2.1 2 _ rfl
  clear hO hS
  have hc := place_any s.names name hna _ w (NamesW.own HO.out.2.2.2.2.1) (by have := hF.2.1; omega) hF.2.2.2.1
  cases hth : thereN s.names name with
  | false =>
    have HR : Hid (removeP s name = (s, 71)) := by unfold Hid removeP; rw [hth]; rfl
    rw [hth] at hc
    clear hth
    go_enter Tryz.func146, Tryz.ntmps146
    go_wp2_with fail
    refine hc.mono ?_
    rintro e w1 ⟨rfl, u1⟩
    have HU : Hid (Below w.heap.size w w1) := u1
    clear u1 hc q2
    go_wp2_with fail
    go_ret
    rw [HR.out]
    exact ⟨rfl, (HO.out.up HU.out).shut, Below_beside HU.out hbase⟩
  | true =>
    have HR : Hid (removeP s name = (sweptOf { s with names := s.names.eraseIdx (rankN s.names name) }, 0)) := by unfold Hid removeP; rw [hth]; rfl
    have hlt := place_small hth
    have hl2 := hF.2.1
    rw [hth] at hc
    clear hth
    generalize rankN s.names name = r at *
    go_enter Tryz.func146, Tryz.ntmps146
    go_wp2_with fail
    refine hc.mono ?_
    rintro e w1 ⟨rfl, u1⟩
    have HO1 : Hid (OpenS w1 base B s af cf an cn as' cs' m) := HO.out.up u1
    have HU : Hid (Beside base B w w1) := Below_beside u1 hbase
    have hb1 : base ≤ w1.heap.size := Nat.le_trans hbase u1.size
    clear u1 hc q2
    have q2 := blk_cell HO1.out.2.1 2 _ rfl
    go_wp2_with fail
    refine (deleteN_any s.names _ r base w1 HO1.out.2.2.2.2.1 hlt hl2 hb1).mono ?_
    rintro e w2 ⟨v', rfl, on2, g2, hob⟩
    have hst := HO1.out.setNames hb1 g2 (.inl hob) on2
    obtain ⟨a4, c4, e4, _, _⟩ := (NamesW.own on2).len
    subst e4
    clear q2
    have q2 := blk_cell hst.1 2 _ rfl
    have f2 := blk_frozen hst.1 2
    have HS : Hid (OwnS (w2.setCell ⟨B, 2, none⟩ (.slice a4 (s.names.eraseIdx r).length c4)) base B { s with names := s.names.eraseIdx r } ∧ Beside base B w (w2.setCell ⟨B, 2, none⟩ (.slice a4 (s.names.eraseIdx r).length c4))) := ⟨hst.2.1, HU.out.trans hst.2.2⟩
    clear hst g2 on2 hob
    have hle : (s.names.eraseIdx r).length ≤ 256 := by
      have := List.length_eraseIdx_le s.names r
      omega
    generalize (s.names.eraseIdx r).length = n4 at *
    go_wp2_with fail
    refine (sweep_any { s with names := s.names.eraseIdx r } base B _ HS.out.1 hF.1 (by
      have := List.length_eraseIdx_le s.names r
      exact Nat.le_trans this hl2) hF.2.2.1 (Nat.le_trans hbase HS.out.2.size)).mono ?_
    rintro e w3 ⟨rfl, hs3, hb3⟩
    have HS3 : Hid (OwnS w3 base B (sweptOf { s with names := s.names.eraseIdx r }) ∧ Beside base B w w3) := ⟨hs3, HS.out.2.trans hb3⟩
    clear hs3 hb3 q2 f2
    go_wp2_with fail
    go_ret
    rw [HR.out]
    exact ⟨rfl, HS3.out⟩
end Go.Proofs.YtnchjlimkgbfpaaGreatDoor

namespace Go.Proofs.YtnchjlimkgbfpaaGreatDoor
open Go.RowKit
set_option linter.unusedVariables false
set_option maxRecDepth 20000
abbrev noF : FRow := (undef, 0, [], 0)
theorem octR_len (l : List Int) : ∀ cs ∈ l.map (fun x => [Value.int .u8 x]), cs.length = 1 := by
  intro cs hcs
  obtain ⟨p, _, rfl⟩ := List.mem_map.1 hcs
  rfl
theorem octR_flat (l : List Int) : (l.map (fun x => [Value.int .u8 x])).flatten = l.map (Value.int .u8) := by
  induction l with
  | nil => rfl
  | cons x l ih => simp [ih]
theorem OwnB.rows {w : World} {base : Nat} {v : Value} {l : List Int} (h : OwnB w base v l) : OwnR w base 5 1 v (l.map (fun x => [Value.int .u8 x])) := by
  refine ⟨octR_len l, ?_⟩
  rw [octR_flat, List.length_map]
  exact h
theorem OwnR.octs {w : World} {base : Nat} {v : Value} {l : List Int} (h : OwnR w base 5 1 v (l.map (fun x => [Value.int .u8 x]))) : OwnB w base v l := by
  have := h.2
  rw [octR_flat, List.length_map] at this
  exact this
theorem run_append_octs_near (w : World) (ty : TypeId) (base : Nat) (v vx : Value) (l0 lx : List Int) (hown : OwnB w base v l0) (hO : Octs w vx lx) (hsz : l0.length + lx.length ≤ 140737488355328) (hbase : base ≤ w.heap.size) :
    ∃ v' w', (Builtin.append_ #[88, 88] ty #[v, vx]).run Tryz.prog w = .ok v' w' ∧ OwnB w' base v' (l0 ++ lx) ∧ w.grownBy w' v.ownBlock ∧ Near w v v' := by
  obtain ⟨hoct, hO⟩ := hO
  have key : ∀ (ad : Addr) (c : Nat), vx = .slice (some ad) lx.length c → (∀ j u, (lx.map (Value.int .u8))[j]? = some u → w.cell? (ad.add j) = some u) → ∃ v' w', (Builtin.append_ #[88, 88] ty #[v, vx]).run Tryz.prog w = .ok v' w' ∧ OwnB w' base v' (l0 ++ lx) ∧ w.grownBy w' v.ownBlock ∧ Near w v v' := by
    intro ad c e hc
    rw [e]
    obtain ⟨v', w', hr, ho, hg, hn⟩ := run_append_near w 88 ty 5 (.int .u8 0) 1 1 Tryz.underlying88 Tryz.info5 rfl (by decide) base v (l0.map (fun x => [Value.int .u8 x])) hown.rows ad lx.length c (lx.map (fun x => [Value.int .u8 x])) (octR_len lx) (by simp) (by rw [octR_flat]; exact hc) (by
        intro cs hcs u hu
        obtain ⟨p, _, rfl⟩ := List.mem_map.1 hcs
        simp at hu
        subst hu
        rfl) (by rw [List.length_map]; omega) (by rw [List.length_map]; unfold maxLen; omega) hbase
    rw [← List.map_append] at ho
    exact ⟨v', w', hr, ho.octs, hg, hn⟩
  rcases hO with ⟨rfl, ax, cap, rfl, hn⟩ | ⟨hne, b, off, cap, rfl, hcap, hm, hc⟩
  · cases ax with
    | none =>
      obtain rfl := hn rfl
      obtain ⟨i0, hi, hz0, hz1, hz2⟩ := info_some Tryz.info5
      have hrun := run_append_owned_none (P := Tryz.prog) (w := w) base 88 ty 5 i0 1 Tryz.underlying88 hi v l0.length (l0.map (Value.int .u8)) hown
      exact ⟨v, w, hrun, by simpa using hown, grown_refl _ _, .inl rfl⟩
    | some ad => exact key ad cap rfl (fun j u hj => by simp at hj)
  · refine key ⟨b, off, none⟩ cap rfl fun j u hj => ?_
    rw [List.getElem?_map] at hj
    cases hx : lx[j]? with
    | none => rw [hx] at hj; cases hj
    | some y =>
      rw [hx] at hj
      simp at hj
      subst hj
      rw [Addr.add_lit]
      exact hc j y hx
theorem pairwise_set {m : List FRow} {i : Nat} {y : FRow} (hi : i < m.length) (h : m.Pairwise (fun a b => Apart a.1 b.1)) (hy : ∀ j, j < m.length → j ≠ i → Apart y.1 (m.getD j noF).1) : (m.set i y).Pairwise (fun a b => Apart a.1 b.1) := by
  rw [List.pairwise_iff_getElem] at h ⊢
  intro a b ha hb hab
  have ha' : a < m.length := by simpa using ha
  have hb' : b < m.length := by simpa using hb
  rw [List.getElem_set, List.getElem_set]
  by_cases e1 : i = a
  · have e2 : ¬ i = b := by omega
    rw [if_pos e1, if_neg e2]
    have := hy b hb' (fun q => e2 q.symm)
    simpa [List.getD, hb'] using this
  · rw [if_neg e1]
    by_cases e2 : i = b
    · rw [if_pos e2]
      have := hy a ha' (fun q => e1 q.symm)
      exact Apart.symm (by simpa [List.getD, ha'] using this)
    · rw [if_neg e2]
      exact h a b ha' hb' hab
theorem apart_at {m : List FRow} (h : m.Pairwise (fun a b => Apart a.1 b.1)) (i j : Nat) (hi : i < m.length) (hj : j < m.length) (hne : i ≠ j) : Apart (m.getD i noF).1 (m.getD j noF).1 := by
  rw [List.pairwise_iff_getElem] at h
  rcases Nat.lt_or_ge i j with c | c
  · have := h i j hi hj c
    simpa [List.getD, hi, hj] using this
  · have := h j i hj hi (by omega)
    have := this.symm
    simpa [List.getD, hi, hj] using this
theorem OwnF.sync {w : World} {base g n c : Nat} {m : List FRow} (h : OwnF w base (.slice (some ⟨g, 0, none⟩) n c) m) (hn : m.length = n) (i : Nat) (hi : i < n) (k : Int) (hk : In64 k) :
    OwnF (w.setCell ⟨g, i * 3 + 2, none⟩ (.int .i64 k)) base (.slice (some ⟨g, 0, none⟩) n c) (m.set i ((m.getD i noF).1, (m.getD i noF).2.1, (m.getD i noF).2.2.1, k)) := by
  have st := OwnR.set h.1 (by rw [List.length_map]; exact hn) i hi 2 (by decide) (.int .i64 k)
  have hmem : m.getD i noF ∈ m := by
    have : i < m.length := by omega
    simp [List.getD, this]
  have hrow : ((m.map frow).getD i []).set 2 (.int .i64 k) = frow ((m.getD i noF).1, (m.getD i noF).2.1, (m.getD i noF).2.2.1, k) := by
    have : i < m.length := by omega
    simp [List.getD, this, frow]
  rw [hrow, ← List.map_set] at st
  refine ⟨st.1, ?_, ?_⟩
  · intro y hy
    rcases List.mem_or_eq_of_mem_set hy with q | q
    · have := h.2.1 y q
      exact ⟨this.1.far st.2.1 (own_own_ne this.1 h.1.2 (by decide)), this.2⟩
    · have := h.2.1 _ hmem
      rw [q]
      exact ⟨this.1.far st.2.1 (own_own_ne this.1 h.1.2 (by decide)), this.2.1, this.2.2.1, this.2.2.2.1, hk⟩
  · refine pairwise_set (by omega) h.2.2 fun j hj hne => ?_
    exact apart_at h.2.2 i j (by omega) hj (fun q => hne q.symm)
theorem OwnF.data {w w1 : World} {base g n c : Nat} {m : List FRow} (h : OwnF w base (.slice (some ⟨g, 0, none⟩) n c) m) (hn : m.length = n) (i : Nat) (hi : i < n) {v' : Value} {d : List Int} (ho : OwnB w1 base v' d) (hg : w.grownBy w1 (m.getD i noF).1.ownBlock) (hnear : Near w (m.getD i noF).1 v') (hd : OctL d ∧ d.length ≤ 140737488355328) :
    OwnF (w1.setCell ⟨g, i * 3 + 1, none⟩ v') base (.slice (some ⟨g, 0, none⟩) n c) (m.set i (v', (m.getD i noF).2.1, d, (m.getD i noF).2.2.2)) := by
  have hmem : m.getD i noF ∈ m := by
    have : i < m.length := by omega
    simp [List.getD, this]
  have hi0 := h.2.1 _ hmem
  have hR1 := h.1.far hg (own_own_ne h.1.2 hi0.1 (by decide))
  have st := OwnR.set hR1 (by rw [List.length_map]; exact hn) i hi 1 (by decide) v'
  have hrow : ((m.map frow).getD i []).set 1 v' = frow (v', (m.getD i noF).2.1, d, (m.getD i noF).2.2.2) := by
    have : i < m.length := by omega
    simp [List.getD, this, frow]
  rw [hrow, ← List.map_set] at st
  have others : ∀ j, j < m.length → j ≠ i → OwnB w1 base (m.getD j noF).1 (m.getD j noF).2.2.1 := by
    intro j hj hne
    have hm : m.getD j noF ∈ m := by simp [List.getD, hj]
    exact (h.2.1 _ hm).1.far hg (apart_at h.2.2 j i hj (by omega) hne)
  refine ⟨st.1, ?_, ?_⟩
  · intro y hy
    obtain ⟨j, hj, rfl⟩ := List.getElem_of_mem hy
    have hj' : j < m.length := by simpa using hj
    rw [List.getElem_set]
    by_cases e : i = j
    · rw [if_pos e]
      exact ⟨ho.far st.2.1 (own_own_ne ho hR1.2 (by decide)), hd.1, hd.2, hi0.2.2.2.1, hi0.2.2.2.2⟩
    · rw [if_neg e]
      have h1 := others j hj' (fun q => e q.symm)
      have e1 : m.getD j noF = m[j] := by simp [List.getD, hj']
      rw [e1] at h1
      exact ⟨h1.far st.2.1 (own_own_ne h1 hR1.2 (by decide)), (h.2.1 m[j] (List.getElem_mem hj')).2⟩
  · refine pairwise_set (by omega) h.2.2 fun j hj hne => ?_
    have hm : m.getD j noF ∈ m := by simp [List.getD, hj]
    exact hnear.apart (apart_at h.2.2 i j (by omega) hj (fun q => hne q.symm)) (h.2.1 _ hm).1
end Go.Proofs.YtnchjlimkgbfpaaGreatDoor
