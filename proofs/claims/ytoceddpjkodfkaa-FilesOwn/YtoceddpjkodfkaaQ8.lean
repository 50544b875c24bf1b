/- Acts that change the names: sync the names, remove. -/
import Derived.Test.YtoceddpjkodfkaaQ7
namespace Go.Proofs.Ytoceddpjkodfkaa
open Go.RowKit
set_option linter.unusedVariables false

/-- A state in its block, laid open. -/
def OpenS (w : World) (base B : Nat) (s : St) (af : Option Addr) (cf : Nat) (an : Option Addr) (cn : Nat) (as' : Option Addr) (cs' : Nat) (m : List FRow) : Prop :=
  True ∧ w.heap[B]? = some (.cells #[.int .i64 s.cap, .slice af m.length cf, .slice an s.names.length cn, .slice as' s.safe.length cs', .int .i64 s.next] 33) ∧ m.map (·.2) = s.files ∧ OwnF w base (.slice af m.length cf) m ∧
    OwnN w base 73 (.slice an s.names.length cn) s.names ∧ OwnN w base 73 (.slice as' s.safe.length cs') s.safe ∧ Apart (.slice an s.names.length cn) (.slice as' s.safe.length cs') ∧ In64 s.cap ∧ In64 s.next

theorem OwnS.open {w : World} {base B : Nat} {s : St} (h : OwnS w base B s) : ∃ af cf an cn as' cs' m, OpenS w base B s af cf an cn as' cs' m := by
  obtain ⟨hB, vf, vn, vs, m, hb, hm, of, on, os, hap, hi1, hi2⟩ := h
  obtain ⟨a1, c1, e1, _, _⟩ := (NamesW.own on).len
  obtain ⟨a2, c2, e2, _, _⟩ := (NamesW.own os).len
  obtain ⟨a3, c3, e3, _, _⟩ := (Rws.own of.1).len
  rw [List.length_map] at e3
  subst e1
  subst e2
  subst e3
  exact ⟨_, _, _, _, _, _, m, hB, hb, hm, of, on, os, hap, hi1, hi2⟩

theorem OpenS.shut {w : World} {base B : Nat} {s : St} {af : Option Addr} {cf : Nat} {an : Option Addr} {cn : Nat} {as' : Option Addr} {cs' : Nat} {m : List FRow} (h : OpenS w base B s af cf an cn as' cs' m) : OwnS w base B s := by
  obtain ⟨hB, hb, hm, of, on, os, hap, hi1, hi2⟩ := h
  exact ⟨hB, _, _, _, m, hb, hm, of, on, os, hap, hi1, hi2⟩

theorem OpenS.up {w w' : World} {base B : Nat} {s : St} {af : Option Addr} {cf : Nat} {an : Option Addr} {cn : Nat} {as' : Option Addr} {cs' : Nat} {m : List FRow} (h : OpenS w base B s af cf an cn as' cs' m) (hb : Below w.heap.size w w') : OpenS w' base B s af cf an cn as' cs' m := by
  obtain ⟨hB, h1, hm, of, on, os, hap, hi1, hi2⟩ := h
  exact ⟨hB, blk_up h1 hb, hm, of.up hb, on.up hb, os.up hb, hap, hi1, hi2⟩

/-- New names are stored. -/
theorem OpenS.setNames {w w1 : World} {base B : Nat} {s : St} {af : Option Addr} {cf : Nat} {an : Option Addr} {cn : Nat} {as' : Option Addr} {cs' : Nat} {m : List FRow} (h : OpenS w base B s af cf an cn as' cs' m) (hbase : base ≤ w.heap.size) {v' : Value} {l' : List (List Int × Int)}
    (hg : w.grownBy w1 (Value.ownBlock (.slice an s.names.length cn))) (hn : Near w (.slice an s.names.length cn) v') (ho : OwnN w1 base 73 v' l') :
    w1.heap[B]? = some (.cells #[.int .i64 s.cap, .slice af m.length cf, .slice an s.names.length cn, .slice as' s.safe.length cs', .int .i64 s.next] 33) ∧ OwnS (w1.setCell ⟨B, 2, none⟩ v') base B { s with names := l' } ∧ Beside base B w (w1.setCell ⟨B, 2, none⟩ v') := by
  obtain ⟨hB, hb, hm, of, on, os, hap, hi1, hi2⟩ := h
  have nB : some B ≠ Value.ownBlock (.slice an s.names.length cn) := by
    have := own_blk_ne on.2.2 hb (by decide)
    rcases this with q | q
    · rw [q]; simp
    · exact fun e => q e.symm
  have b1 := blk_grown hb hg nB
  have of1 := of.far hg (own_own_ne of.1.2 on.2.2 (by decide)) (fun y hy => own_own_ne (of.2.1 y hy).1 on.2.2 (by decide))
  have os1 := os.far hg hap.symm
  have g5 := grown_set w1 ⟨B, 2, none⟩ v'
  refine ⟨b1, ⟨hB, _, _, _, m, blk_set b1 2 v', hm, ?_, ?_, ?_, hn.apart hap os.2.2, hi1, hi2⟩, ?_⟩
  · exact of1.far g5 (own_blk_ne of1.1.2 b1 (by decide)) (fun y hy => own_blk_ne (of1.2.1 y hy).1 b1 (by decide))
  · exact ho.far g5 (own_blk_ne ho.2.2 b1 (by decide))
  · exact os1.far g5 (own_blk_ne os1.2.2 b1 (by decide))
  · refine ((Beside.refl base B w).grown hg hbase (fun k hk => .inl (on.2.2.lt k hk).1)).grown g5 (Nat.le_trans hbase hg.size) (fun k hk => ?_)
    injection hk with hk
    rw [← hk]
    exact .inr rfl

/-- New safe names, in new memory, are stored. -/
theorem OpenS.setSafe {w w1 : World} {base B : Nat} {s : St} {af : Option Addr} {cf : Nat} {an : Option Addr} {cn : Nat} {as' : Option Addr} {cs' : Nat} {m : List FRow} (h : OpenS w base B s af cf an cn as' cs' m) (hbase : base ≤ w.heap.size) {v' : Value} {l' : List (List Int × Int)}
    (hg : Below w.heap.size w w1) (ho : OwnN w1 w.heap.size 73 v' l') :
    w1.heap[B]? = some (.cells #[.int .i64 s.cap, .slice af m.length cf, .slice an s.names.length cn, .slice as' s.safe.length cs', .int .i64 s.next] 33) ∧ OwnS (w1.setCell ⟨B, 3, none⟩ v') base B { s with safe := l' } ∧ Beside base B w (w1.setCell ⟨B, 3, none⟩ v') := by
  obtain ⟨hB, hb, hm, of, on, os, hap, hi1, hi2⟩ := h
  have b1 := blk_up hb hg
  have of1 := of.up hg
  have on1 := on.up hg
  have g5 := grown_set w1 ⟨B, 3, none⟩ v'
  refine ⟨b1, ⟨hB, _, _, _, m, blk_set b1 3 v', hm, ?_, ?_, ?_, apart_new on.2.2 ho.2.2, hi1, hi2⟩, ?_⟩
  · exact of1.far g5 (own_blk_ne of1.1.2 b1 (by decide)) (fun y hy => own_blk_ne (of1.2.1 y hy).1 b1 (by decide))
  · exact on1.far g5 (own_blk_ne on1.2.2 b1 (by decide))
  · exact (ho.mono hbase).far g5 (own_blk_ne ho.2.2 b1 (by decide))
  · refine (Below_beside hg hbase).grown g5 (Nat.le_trans hbase hg.size) (fun k hk => ?_)
    injection hk with hk
    rw [← hk]
    exact .inr rfl

/-- What the acts ask of a state. -/
def Fine (s : St) : Prop := s.files.length ≤ 256 ∧ s.names.length ≤ 256 ∧ s.safe.length ≤ 256 ∧ RiseN s.names ∧ RiseF s.files

def syncNamesP (s : St) : St := sweptOf { s with safe := s.names }

set_option maxHeartbeats 1000000 in
theorem syncNames_any (s : St) (base B : Nat) (w : World) (hS : OwnS w base B s) (hF : Fine s) (hbase : base ≤ w.heap.size) :
    Calls Try.prog 63 #[.pointer (some ⟨B, 0, none⟩)] w fun e w' => e = .returned (.int .i64 0) ∧ OwnS w' base B (syncNamesP s) ∧ Beside base B w w' := by
  obtain ⟨af, cf, an, cn, as', cs', m, hO⟩ := hS.open
  have HO : Hid (OpenS w base B s af cf an cn as' cs' m) := hO
  have q2 := blk_cell hO.2.1 2 _ rfl
  clear hO hS
  go_enter Try.func63, Try.ntmps63
  go_wp2_with fail
  refine (freshN_any s.names _ w (NamesW.own HO.out.2.2.2.2.1) (by have := hF.2.1; omega)).mono ?_
  rintro e w1 ⟨v', rfl, on1, u1⟩
  have hst := HO.out.setSafe hbase u1 on1
  obtain ⟨a4, c4, e4, _, _⟩ := (NamesW.own on1).len
  subst e4
  have q3 := blk_cell hst.1 3 _ rfl
  have f3 := blk_frozen hst.1 3
  have HS : Hid (OwnS (w1.setCell ⟨B, 3, none⟩ (.slice a4 s.names.length c4)) base B { s with safe := s.names } ∧ Beside base B w (w1.setCell ⟨B, 3, none⟩ (.slice a4 s.names.length c4))) := hst.2
  clear hst u1 on1 q2
  go_wp2_with fail
  refine (sweep_any { s with safe := s.names } base B _ HS.out.1 hF.1 hF.2.1 hF.2.1 (Nat.le_trans hbase HS.out.2.size)).mono ?_
  rintro e w2 ⟨rfl, hs2, hb2⟩
  have HS2 : Hid (OwnS w2 base B (syncNamesP s) ∧ Beside base B w w2) := ⟨hs2, HS.out.2.trans hb2⟩
  clear hs2 hb2 q3 f3
  go_wp2_with fail
  go_ret
  exact ⟨rfl, HS2.out⟩

def removeP (s : St) (name : List Int) : St × Int := if thereN s.names name then (sweptOf { s with names := s.names.eraseIdx (rankN s.names name) }, 0) else (s, 71)

theorem place_small {l : List (List Int × Int)} {t : List Int} (h : thereN l t = true) : rankN l t < l.length := lt_of_thereN h

set_option maxHeartbeats 1000000 in
theorem remove_any (s : St) (name : List Int) (hna : OctL name) (base B : Nat) (w : World) (hS : OwnS w base B s) (hF : Fine s) (hbase : base ≤ w.heap.size) :
    Calls Try.prog 62 #[.pointer (some ⟨B, 0, none⟩), .string (strOfNums name)] w fun e w' => e = .returned (.int .i64 (removeP s name).2) ∧ OwnS w' base B (removeP s name).1 ∧ Beside base B w w' := by
  obtain ⟨af, cf, an, cn, as', cs', m, hO⟩ := hS.open
  have HO : Hid (OpenS w base B s af cf an cn as' cs' m) := hO
  have q2 := blk_cell hO.2.1 2 _ rfl
  clear hO hS
  have hc := place_any s.names name hna _ w (NamesW.own HO.out.2.2.2.2.1) (by have := hF.2.1; omega) hF.2.2.2.1
  cases hth : thereN s.names name with
  | false =>
    have HR : Hid (removeP s name = (s, 71)) := by unfold Hid removeP; rw [hth]; rfl
    rw [hth] at hc
    clear hth
    go_enter Try.func62, Try.ntmps62
    go_wp2_with fail
    refine hc.mono ?_
    rintro e w1 ⟨rfl, u1⟩
    have HU : Hid (Below w.heap.size w w1) := u1
    clear u1 hc q2
    go_wp2_with fail
    go_ret
    rw [HR.out]
    exact ⟨rfl, (HO.out.up HU.out).shut, Below_beside HU.out hbase⟩
  | true =>
    have HR : Hid (removeP s name = (sweptOf { s with names := s.names.eraseIdx (rankN s.names name) }, 0)) := by unfold Hid removeP; rw [hth]; rfl
    have hlt := place_small hth
    have hl2 := hF.2.1
    rw [hth] at hc
    clear hth
    generalize rankN s.names name = r at *
    go_enter Try.func62, Try.ntmps62
    go_wp2_with fail
    refine hc.mono ?_
    rintro e w1 ⟨rfl, u1⟩
    have HO1 : Hid (OpenS w1 base B s af cf an cn as' cs' m) := HO.out.up u1
    have HU : Hid (Beside base B w w1) := Below_beside u1 hbase
    have hb1 : base ≤ w1.heap.size := Nat.le_trans hbase u1.size
    clear u1 hc q2
    have q2 := blk_cell HO1.out.2.1 2 _ rfl
    go_wp2_with fail
    refine (deleteN_any s.names _ r base w1 HO1.out.2.2.2.2.1 hlt hl2 hb1).mono ?_
    rintro e w2 ⟨v', rfl, on2, g2, hob⟩
    have hst := HO1.out.setNames hb1 g2 (.inl hob) on2
    obtain ⟨a4, c4, e4, _, _⟩ := (NamesW.own on2).len
    subst e4
    clear q2
    have q2 := blk_cell hst.1 2 _ rfl
    have f2 := blk_frozen hst.1 2
    have HS : Hid (OwnS (w2.setCell ⟨B, 2, none⟩ (.slice a4 (s.names.eraseIdx r).length c4)) base B { s with names := s.names.eraseIdx r } ∧ Beside base B w (w2.setCell ⟨B, 2, none⟩ (.slice a4 (s.names.eraseIdx r).length c4))) := ⟨hst.2.1, HU.out.trans hst.2.2⟩
    clear hst g2 on2 hob
    have hle : (s.names.eraseIdx r).length ≤ 256 := by
      have := List.length_eraseIdx_le s.names r
      omega
    generalize (s.names.eraseIdx r).length = n4 at *
    go_wp2_with fail
    refine (sweep_any { s with names := s.names.eraseIdx r } base B _ HS.out.1 hF.1 (by
      have := List.length_eraseIdx_le s.names r
      exact Nat.le_trans this hl2) hF.2.2.1 (Nat.le_trans hbase HS.out.2.size)).mono ?_
    rintro e w3 ⟨rfl, hs3, hb3⟩
    have HS3 : Hid (OwnS w3 base B (sweptOf { s with names := s.names.eraseIdx r }) ∧ Beside base B w w3) := ⟨hs3, HS.out.2.trans hb3⟩
    clear hs3 hb3 q2 f2
    go_wp2_with fail
    go_ret
    rw [HR.out]
    exact ⟨rfl, HS3.out⟩
end Go.Proofs.Ytoceddpjkodfkaa
