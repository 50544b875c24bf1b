/- Texts of layers 1 to 13, in this order. -/
import Derived.Test.YthiegmhplnbdlaaGreatG13
import Derived.Test.YthiegmhplnbdlaaGreatG12
import Derived.Test.YthiegmhplnbdlaaGreatG08

namespace Go.Proofs.YthiegmhplnbdlaaGreat
open Go.RowKit
set_option linter.unusedVariables false
set_option linter.unusedSimpArgs false
def stepW : List Int → Nat → Int → List Int → Option (List Int)
  | [], _, _, W => some W
  | x :: xs, l, num, W => if W.getD l 0 = num then stepW xs (l + 1) num (W.set l x) else none
def joinF (ns : List (En × List Int)) : Nat → List Int → En → Bool
  | 0, W, _ => decide (W = List.replicate 8 0)
  | n + 1, W, last =>
    if W.getD 0 0 < 1 ∨ (ns.length : Int) < W.getD 0 0 then false
    else if beforeE last (ns.getD (W.getD 0 0 - 1).toNat default).1 = true then
      match stepW (ns.getD (W.getD 0 0 - 1).toNat default).2 0 (W.getD 0 0) W with
      | none => false
      | some W' => joinF ns n W' (ns.getD (W.getD 0 0 - 1).toNat default).1
    else false
theorem stepW_iff : ∀ (xs : List Int) (l : Nat) (num : Int) (W : List Int), l + xs.length ≤ W.length →
    (∀ W', stepW xs l num W = some W' ↔ ((∀ j, j < xs.length → W.getD (l + j) 0 = num) ∧ W'.length = W.length ∧ ∀ j, j < W.length → W'.getD j 0 = if l ≤ j ∧ j < l + xs.length then xs.getD (j - l) 0 else W.getD j 0))
  | [], l, num, W, h, W' => by
    simp only [stepW, Option.some.injEq, List.length_nil, Nat.add_zero]
    constructor
    · rintro rfl
      refine ⟨fun j hj => by omega, rfl, fun j hj => ?_⟩
      rw [if_neg (by omega)]
    · rintro ⟨_, h1, h2⟩
      refine ints_ext h1.symm (fun j hj => ?_)
      rw [h2 j hj, if_neg (by omega)]
  | x :: xs, l, num, W, h, W' => by
    simp only [List.length_cons] at h
    have ih := stepW_iff xs (l + 1) num (W.set l x) (by rw [List.length_set]; omega) W'
    unfold stepW
    by_cases q : W.getD l 0 = num
    · rw [if_pos q, ih]
      simp only [List.length_set, List.length_cons]
      constructor
      · rintro ⟨h1, h2, h3⟩
        refine ⟨fun j hj => ?_, h2, fun j hj => ?_⟩
        · cases j with
          | zero => exact q
          | succ j =>
            have := h1 j (by omega)
            rw [getD_set, if_neg (by omega)] at this
            rw [← this]
            congr 1
            omega
        · rw [h3 j hj]
          by_cases e : j = l
          · subst e
            rw [if_neg (by omega), if_pos (by omega), getD_set, if_pos (by omega)]
            simp
          · have hg : (W.set l x).getD j 0 = W.getD j 0 := by rw [getD_set, if_neg (fun r => e r.1)]
            rw [hg]
            by_cases e2 : l + 1 ≤ j ∧ j < l + 1 + xs.length
            · rw [if_pos e2, if_pos (by omega)]
              have : j - l = (j - (l + 1)) + 1 := by omega
              rw [this]
              simp
            · rw [if_neg e2, if_neg (by omega)]
      · rintro ⟨h1, h2, h3⟩
        refine ⟨fun j hj => ?_, h2, fun j hj => ?_⟩
        · rw [getD_set, if_neg (by omega)]
          have := h1 (j + 1) (by omega)
          rw [← this]
          congr 1
          omega
        · rw [h3 j hj]
          by_cases e : j = l
          · subst e
            rw [if_pos (by omega), if_neg (by omega), getD_set, if_pos (by omega)]
            simp
          · have hg : (W.set l x).getD j 0 = W.getD j 0 := by rw [getD_set, if_neg (fun r => e r.1)]
            rw [hg]
            by_cases e2 : l + 1 ≤ j ∧ j < l + 1 + xs.length
            · rw [if_pos e2, if_pos (by omega)]
              have : j - l = (j - (l + 1)) + 1 := by omega
              rw [this]
              simp
            · rw [if_neg e2, if_neg (by omega)]
    · rw [if_neg q]
      constructor
      · intro r; cases r
      · rintro ⟨h1, _⟩
        exact absurd (h1 0 (by simp)) q
theorem rep_get (l : Nat) : (List.replicate 8 (0 : Int)).getD l 0 = 0 := by
  simp only [List.getD, List.getElem?_replicate]
  split <;> rfl
theorem joinF_iff (s : Sk) (hh : ∀ k, k < s.nodes.length → 1 ≤ s.h k ∧ s.h k ≤ 8) : ∀ (n : Nat) (W : List Int) (last : En), W.length = 8 →
    (joinF s.nodes n W last = true ↔ ∃ p : List Nat, p.length = n ∧ (∀ k ∈ p, k < s.nodes.length) ∧ Srt s.es p ∧ (∀ k ∈ p, beforeE last (s.at' k).1 = true) ∧ ∀ l, l < 8 → chainOK s.h s.nx l p (W.getD l 0))
  | 0, W, last, hW => by
    unfold joinF
    rw [decide_eq_true_iff]
    constructor
    · rintro rfl
      refine ⟨[], rfl, (fun k hk => by cases hk), List.Pairwise.nil, (fun k hk => by cases hk), fun l hl => ?_⟩
      unfold chainOK
      exact rep_get l
    · rintro ⟨p, hp, _, _, _, hc⟩
      obtain rfl : p = [] := List.length_eq_zero_iff.1 hp
      refine ints_ext (by simp [hW]) (fun j hj => ?_)
      have := hc j (by omega)
      unfold chainOK at this
      rw [this, rep_get]
  | n + 1, W, last, hW => by
    unfold joinF
    constructor
    · intro H
      by_cases q : W.getD 0 0 < 1 ∨ (s.nodes.length : Int) < W.getD 0 0
      · rw [if_pos q] at H; cases H
      · rw [if_neg q] at H
        obtain ⟨k, hk⟩ : ∃ k : Nat, W.getD 0 0 = (k : Int) + 1 := ⟨(W.getD 0 0 - 1).toNat, by omega⟩
        have hkn : k < s.nodes.length := by omega
        rw [hk, show ((k : Int) + 1 - 1).toNat = k by omega] at H
        have hat : s.nodes.getD k default = s.at' k := rfl
        rw [hat] at H
        by_cases hb : beforeE last (s.at' k).1 = true
        · rw [if_pos hb] at H
          cases hs : stepW (s.at' k).2 0 ((k : Int) + 1) W with
          | none => rw [hs] at H; cases H
          | some W' =>
            rw [hs] at H
            have h8 := hh k hkn
            have hst := (stepW_iff (s.at' k).2 0 _ W (by have := h8.2; unfold Sk.h at this; omega) W').1 hs
            obtain ⟨p, p1, p2, p3, p4, p5⟩ := (joinF_iff s hh n W' (s.at' k).1 (by omega)).1 H
            refine ⟨k :: p, by simp [p1], ?_, ?_, ?_, ?_⟩
            · intro j hj
              rcases List.mem_cons.1 hj with rfl | r
              · exact hkn
              · exact p2 j r
            · refine List.pairwise_cons.2 ⟨fun j hj => ?_, p3⟩
              rw [Sk.eAt, Sk.eAt]
              exact p4 j hj
            · intro j hj
              rcases List.mem_cons.1 hj with rfl | r
              · exact hb
              · exact beforeS_trans hb (p4 j r)
            · intro l hl
              have h5 := p5 l hl
              have h3 := hst.2.2 l (by omega)
              by_cases e : l < s.h k
              · refine (chain_in e).2 ⟨?_, ?_⟩
                · have := hst.1 l e
                  rw [Nat.zero_add] at this
                  exact this
                · rw [h3, if_pos (by unfold Sk.h at e; omega)] at h5
                  exact h5
              · refine (chain_out e).2 ?_
                rw [h3, if_neg (by unfold Sk.h at e; omega)] at h5
                exact h5
        · rw [if_neg hb] at H; cases H
    · rintro ⟨p, p1, p2, p3, p4, p5⟩
      cases p with
      | nil => simp at p1
      | cons k p =>
        have hkn := p2 k (by simp)
        have h8 := hh k hkn
        have hk := ((chain_in (by omega)).1 (p5 0 (by omega))).1
        rw [if_neg (by omega), hk, show ((k : Int) + 1 - 1).toNat = k by omega]
        have hat : s.nodes.getD k default = s.at' k := rfl
        rw [hat, if_pos (p4 k (by simp))]
        have hlen : 0 + (s.at' k).2.length ≤ W.length := by have := h8.2; unfold Sk.h at this; omega
        obtain ⟨W', hW'⟩ : ∃ W' : List Int, W'.length = W.length ∧ ∀ j, j < W.length → W'.getD j 0 = if 0 ≤ j ∧ j < 0 + (s.at' k).2.length then (s.at' k).2.getD (j - 0) 0 else W.getD j 0 := by
          refine ⟨(List.range W.length).map (fun j => if 0 ≤ j ∧ j < 0 + (s.at' k).2.length then (s.at' k).2.getD (j - 0) 0 else W.getD j 0), by simp, fun j hj => ?_⟩
          simp [List.getD, hj]
        have hs := (stepW_iff (s.at' k).2 0 ((k : Int) + 1) W hlen W').2 ⟨fun j hj => ?_, hW'.1, hW'.2⟩
        · rw [hs]
          have p3' := List.pairwise_cons.1 p3
          refine (joinF_iff s hh n W' (s.at' k).1 (by omega)).2 ⟨p, by simpa using p1, fun j hj => p2 j (by simp [hj]), p3'.2, fun j hj => ?_, fun l hl => ?_⟩
          · have := p3'.1 j hj
            rw [Sk.eAt, Sk.eAt] at this
            exact this
          · rw [hW'.2 l (by omega)]
            by_cases e : l < s.h k
            · rw [if_pos (by unfold Sk.h at e; omega)]
              exact ((chain_in e).1 (p5 l hl)).2
            · rw [if_neg (by unfold Sk.h at e; omega)]
              exact (chain_out e).1 (p5 l hl)
        · rw [Nat.zero_add]
          have e : j < s.h k := hj
          exact ((chain_in e).1 (p5 j (by omega))).1
structure Good (s : Sk) : Prop where
  few : s.nodes.length ≤ 4096
  head : s.head.length = 8
  may : ∀ k, k < s.nodes.length → mayE (s.at' k).1 = true
  high : ∀ k, k < s.nodes.length → 1 ≤ s.h k ∧ s.h k ≤ 8
  ones : Ones s.es
  link : Linked s s.ord
theorem Good.srt {s : Sk} (h : Good s) : Srt s.es s.ord := by
  have := orderF_srt s.es h.ones s.es.length (Nat.le_refl _)
  rw [Sk.es_len] at this
  exact this
theorem Good.mem {s : Sk} (h : Good s) (k : Nat) : k ∈ s.ord ↔ k < s.nodes.length := by
  have := orderF_mem s.es h.ones k
  rw [Sk.es_len] at this
  exact this
theorem Good.high8 {s : Sk} (h : Good s) (k : Nat) : s.h k ≤ 8 := by
  by_cases q : k < s.nodes.length
  · exact (h.high k q).2
  · simp [Sk.h, Sk.at', List.getD, q]
    exact Nat.zero_le _
def checkS (s : Sk) : Bool := decide (s.nodes.length ≤ 4096) && (decide (s.head.length = 8) && (s.nodes.all (fun nd => mayE nd.1 && reachP' nd.2.length) && joinF s.nodes s.nodes.length s.head default))
where reachP' (n : Nat) : Bool := decide (1 ≤ n ∧ n ≤ 8)
theorem before_default {a : En} (h : mayE a = true) : beforeE default a = true := by
  simp only [mayE, decide_eq_true_eq] at h
  have hk : a.key.toList ≠ [] := by
    intro e
    have h2 := congrArg List.length e
    rw [ByteArray.toList_eq] at h2
    have : a.key.size = 0 := by simpa using h2
    omega
  have e0 : (default : En).key.toList = [] := by rw [ByteArray.toList_eq]; rfl
  have : Op.bytesLess (default : En).key.toList a.key.toList = true := by
    rw [e0]
    cases q : a.key.toList with
    | nil => exact absurd q hk
    | cons x l => rfl
  simp [beforeE, this]
theorem checkS_iff (s : Sk) : checkS s = true ↔ Good s := by
  unfold checkS
  simp only [Bool.and_eq_true, decide_eq_true_eq, List.all_eq_true, checkS.reachP']
  constructor
  · rintro ⟨h1, h2, h3, h4⟩
    have hat : ∀ k, k < s.nodes.length → s.at' k ∈ s.nodes := by
      intro k hk
      simp [Sk.at', List.getD, hk]
    have hh : ∀ k, k < s.nodes.length → 1 ≤ s.h k ∧ s.h k ≤ 8 := fun k hk => (h3 _ (hat k hk)).2
    obtain ⟨p, p1, p2, p3, p4, p5⟩ := (joinF_iff s hh _ _ _ h2).1 h4
    have pc : ∀ k, k < s.nodes.length → k ∈ p := pigeon _ p (Srt.nodup p3) p2 (by omega)
    have hones : Ones s.es := by
      intro i j hi hj hne
      rw [Sk.es_len] at hi hj
      cases t : twin (eAt s.es i) (eAt s.es j)
      · rfl
      · exfalso
        have key : ∀ q : List Nat, Srt s.es q → i ∈ q → j ∈ q → False := by
          intro q
          induction q with
          | nil => intro _ hi; cases hi
          | cons a q ih =>
            intro hs hi hj
            have hs' := List.pairwise_cons.1 hs
            rcases List.mem_cons.1 hi with e1 | hi'
            · subst e1
              rcases List.mem_cons.1 hj with e2 | hj'
              · exact hne e2.symm
              · have := hs'.1 j hj'
                rw [twin_before t] at this
                cases this
            · rcases List.mem_cons.1 hj with e2 | hj'
              · subst e2
                have := hs'.1 i hi'
                rw [twin_before (twin_symm t)] at this
                cases this
              · exact ih hs'.2 hi' hj'
        exact key p p3 (pc i hi) (pc j hj)
    have ho : s.ord = p := by
      refine srt_unique s.es _ _ ?_ p3 (fun k => ?_)
      · have := orderF_srt s.es hones s.es.length (Nat.le_refl _)
        rw [Sk.es_len] at this
        exact this
      · have := orderF_mem s.es hones k
        rw [Sk.es_len] at this
        unfold Sk.ord
        rw [this]
        exact ⟨pc k, p2 k⟩
    refine ⟨h1, h2, fun k hk => (h3 _ (hat k hk)).1, hh, hones, ?_⟩
    rw [ho]
    exact p5
  · intro g
    refine ⟨g.few, g.head, ?_, ?_⟩
    · intro nd hnd
      obtain ⟨k, hk⟩ := List.mem_iff_getElem?.1 hnd
      have hk' := (List.getElem?_eq_some_iff.1 hk).1
      have e : s.at' k = nd := by simp [Sk.at', List.getD, hk]
      have a := g.may k hk'
      have b := g.high k hk'
      unfold Sk.h at b
      rw [e] at a b
      exact ⟨a, b⟩
    · refine (joinF_iff s g.high _ _ _ g.head).2 ⟨s.ord, ?_, fun k hk => (g.mem k).1 hk, g.srt, fun k hk => before_default (g.may k ((g.mem k).1 hk)), g.link⟩
      exact orderF_len _ _
end Go.Proofs.YthiegmhplnbdlaaGreat

namespace Go.Proofs.YthiegmhplnbdlaaGreat
open Go.RowKit
set_option linter.unusedVariables false
def lenV : Value → Int
  | .slice _ n _ => (n : Int)
  | _ => 0
def hrow (p : En × Value) : List Value := [.int .i64 (lenV p.2)]
end Go.Proofs.YthiegmhplnbdlaaGreat

namespace Go.Proofs.YthiegmhplnbdlaaGreat
open Go.RowKit
set_option linter.unusedVariables false
set_option linter.unusedSimpArgs false
structure SkE (w : World) (vN vH : Value) (s : Sk) (es : List (En × Value)) : Prop where
  ents : es.map (·.1) = s.es
  nodes : NodesE w vN es
  head : IntsR w vH s.head
  nexts : ∀ k p, es[k]? = some p → IntsR w p.2 (s.at' k).2
theorem SkE.up {w w' : World} {vN vH : Value} {s : Sk} {es : List (En × Value)} (h : SkE w vN vH s es) (hb : Below w.heap.size w w') : SkE w' vN vH s es :=
  ⟨h.ents, h.nodes.up hb, h.head.up hb, fun k p hk => (h.nexts k p hk).up hb⟩
theorem SkE.len {w : World} {vN vH : Value} {s : Sk} {es : List (En × Value)} (h : SkE w vN vH s es) : es.length = s.nodes.length := by
  have := congrArg List.length h.ents
  simpa [Sk.es] using this
def wayV (vH : Value) (es : List (En × Value)) : Nat → Value
  | 0 => vH
  | k + 1 => (es.getD k default).2
def Sk.ways (s : Sk) : Nat → List Int
  | 0 => s.head
  | k + 1 => (s.at' k).2
theorem Sk.way_get (s : Sk) (a l : Nat) : s.way a l = (s.ways a).getD l 0 := by cases a <;> rfl
theorem SkE.way {w : World} {vN vH : Value} {s : Sk} {es : List (En × Value)} (h : SkE w vN vH s es) (a : Nat) (ha : a ≤ s.nodes.length) : IntsR w (wayV vH es a) (s.ways a) := by
  cases a with
  | zero => exact h.head
  | succ k =>
    have hk : k < es.length := by rw [h.len]; omega
    have := h.nexts k es[k] (by simp [hk])
    simp only [wayV, List.getD]
    simpa [hk, Sk.ways] using this
theorem SkE.form {w : World} {vN vH : Value} {s : Sk} {es : List (En × Value)} (h : SkE w vN vH s es) : (∃ a c, vN = .slice a s.nodes.length c) ∧ (∃ a c, vH = .slice a s.head.length c) := by
  obtain ⟨a, c, e, _⟩ := h.nodes.len
  obtain ⟨a', c', e', _⟩ := h.head.len
  rw [h.len] at e
  exact ⟨⟨a, c, e⟩, ⟨a', c', e'⟩⟩
theorem SkE.node {w : World} {a : Option Addr} {n c : Nat} {vH : Value} {s : Sk} {es : List (En × Value)} (h : SkE w (.slice a n c) vH s es) (k : Nat) (hk : k < s.nodes.length) :
    ∃ b off an cn, a = some ⟨b, off, none⟩ ∧ n = s.nodes.length ∧ wayV vH es (k + 1) = .slice an (s.h k) cn ∧ w.cell? ⟨b, off + k * 5, none⟩ = some (.string (s.at' k).1.key) ∧ w.cell? ⟨b, off + k * 5 + 1, none⟩ = some (.int .i64 (s.at' k).1.seq) ∧ w.cell? ⟨b, off + k * 5 + 2, none⟩ = some (.int .i64 (s.at' k).1.kind) ∧ w.cell? ⟨b, off + k * 5 + 3, none⟩ = some (.string (s.at' k).1.val) ∧ w.cell? ⟨b, off + k * 5 + 4, none⟩ = some (.slice an (s.h k) cn) := by
  have hk' : k < es.length := by rw [h.len]; exact hk
  obtain ⟨b, off, cap, x, sx, e, hx, c0, c1, c2, c3, c4⟩ := h.nodes.at k hk'
  simp only [Value.slice.injEq] at e
  obtain ⟨rfl, e2, rfl⟩ := e
  have ex : x = (s.at' k).1 := by
    have h1 := congrArg (fun m => m[k]?) h.ents
    simp only [List.getElem?_map, hx, Sk.es] at h1
    simp [hk] at h1
    simp [Sk.at', List.getD, hk, h1]
  subst ex
  have hw : wayV vH es (k + 1) = sx := by simp [wayV, List.getD, hx]
  have hi := h.nexts k _ hx
  obtain ⟨an, cn, e3, _⟩ := hi.len
  simp only at e3
  subst e3
  exact ⟨b, off, an, cn, rfl, by rw [e2, h.len], hw, c0, c1, c2, c3, c4⟩
structure OwnSk (w : World) (base : Nat) (t : TypeId) (vN vH : Value) (s : Sk) (es : List (En × Value)) : Prop where
  ents : es.map (·.1) = s.es
  nodes : OwnR w base t 5 vN (es.map nrow)
  head : OwnR w base 3 1 vH (s.head.map irow)
  nexts : ∀ k p, es[k]? = some p → OwnR w base 3 1 p.2 ((s.at' k).2.map irow)
  apart : (vH :: es.map (·.2)).Pairwise Apart
theorem OwnSk.read {w : World} {base : Nat} {t : TypeId} {vN vH : Value} {s : Sk} {es : List (En × Value)} (h : OwnSk w base t vN vH s es) : SkE w vN vH s es :=
  ⟨h.ents, Rws.own h.nodes, Rws.own h.head, fun k p hk => Rws.own (h.nexts k p hk)⟩
theorem OwnSk.up {w w' : World} {base : Nat} {t : TypeId} {vN vH : Value} {s : Sk} {es : List (En × Value)} (h : OwnSk w base t vN vH s es) (hb : Below w.heap.size w w') : OwnSk w' base t vN vH s es :=
  ⟨h.ents, h.nodes.up hb, h.head.up hb, fun k p hk => (h.nexts k p hk).up hb, h.apart⟩
theorem OwnSk.mono {w : World} {base base' : Nat} {t : TypeId} {vN vH : Value} {s : Sk} {es : List (En × Value)} (h : OwnSk w base t vN vH s es) (hb : base' ≤ base) : OwnSk w base' t vN vH s es :=
  ⟨h.ents, h.nodes.mono hb, h.head.mono hb, fun k p hk => (h.nexts k p hk).mono hb, h.apart⟩
theorem OwnSk.far {w w' : World} {base : Nat} {t : TypeId} {vN vH : Value} {s : Sk} {es : List (En × Value)} {r : Option Nat} (h : OwnSk w base t vN vH s es) (hg : w.grownBy w' r) (h1 : vN.ownBlock = none ∨ vN.ownBlock ≠ r) (h2 : vH.ownBlock = none ∨ vH.ownBlock ≠ r) (h3 : ∀ p ∈ es, p.2.ownBlock = none ∨ p.2.ownBlock ≠ r) : OwnSk w' base t vN vH s es :=
  ⟨h.ents, h.nodes.far hg h1, h.head.far hg h2, fun k p hk => (h.nexts k p hk).far hg (h3 p (List.mem_of_getElem? hk)), h.apart⟩
theorem OwnR.ne_lt {w : World} {base : Nat} {e : TypeId} {sz : Nat} {v : Value} {css : List (List Value)} (h : OwnR w base e sz v css) {r : Nat} (hr : r < base) : v.ownBlock = none ∨ v.ownBlock ≠ some r := by
  cases hv : v.ownBlock with
  | none => exact .inl rfl
  | some b =>
    refine .inr (fun q => ?_)
    injection q with q
    have := (h.2.lt b hv).1
    omega
theorem OwnSk.block {w w' : World} {base : Nat} {t T : TypeId} {vN vH : Value} {s : Sk} {es : List (En × Value)} {r : Nat} {cs : Array Value} {fr : Nat × Nat} (h : OwnSk w base t vN vH s es) (hb : w.heap[r]? = some (.cells cs T fr)) (h1 : t ≠ T) (h2 : 3 ≠ T) (hg : w.grownBy w' (some r)) : OwnSk w' base t vN vH s es :=
  h.far hg (own_blk_ne h.nodes.2 hb h1) (own_blk_ne h.head.2 hb h2) (fun p hp => by
    obtain ⟨k, hk⟩ := List.mem_iff_getElem?.1 hp
    exact own_blk_ne (h.nexts k p hk).2 hb h2)
theorem irow_set (l : List Int) (i : Nat) (v : Int) (hi : i < l.length) : (l.map irow).set i (((l.map irow).getD i []).set 0 (.int .i64 v)) = (l.set i v).map irow := by
  rw [List.map_set]
  congr 1
  simp [List.getD, hi, irow]
theorem OwnR.block {w : World} {base : Nat} {e : TypeId} {sz : Nat} {v : Value} {css : List (List Value)} (h : OwnR w base e sz v css) (hne : css ≠ []) : ∃ g cap, v = .slice (some ⟨g, 0, none⟩) css.length cap ∧ base ≤ g ∧ g < w.heap.size := by
  have h2 := h.2.2
  rcases h2 with ⟨rfl, h0⟩ | ⟨g, cap, cur, rfl, hg, hh, r⟩
  · exact absurd (List.length_eq_zero_iff.1 h0) hne
  · exact ⟨g, cap, rfl, hg, blk_lt hh⟩
theorem OwnSk.set {w : World} {base : Nat} {t : TypeId} {vN vH : Value} {s : Sk} {es : List (En × Value)} (h : OwnSk w base t vN vH s es) (ht : t ≠ 3) (a : Nat) (ha : a ≤ s.nodes.length) (l : Nat) (hl : l < (s.ways a).length) :
    ∃ g cap, wayV vH es a = .slice (some ⟨g, 0, none⟩) (s.ways a).length cap ∧ base ≤ g ∧ g < w.heap.size ∧ w.cell? ⟨g, l, none⟩ = some (.int .i64 (s.way a l)) ∧ w.frozen? ⟨g, l, none⟩ = false ∧
      ∀ v : Int, OwnSk (w.setCell ⟨g, l, none⟩ (.int .i64 v)) base t vN vH (s.set a l v) es ∧ w.grownBy (w.setCell ⟨g, l, none⟩ (.int .i64 v)) (some g) := by
  have hR := h.read.way a ha
  have hO : OwnR w base 3 1 (wayV vH es a) ((s.ways a).map irow) := by
    cases a with
    | zero => exact h.head
    | succ k =>
      have hk : k < es.length := by rw [h.read.len]; omega
      have := h.nexts k es[k] (by simp [hk])
      simp only [wayV, List.getD]
      simpa [hk, Sk.ways] using this
  obtain ⟨g, cap, e, hg1, hg2⟩ := hO.block (by intro q; rw [List.map_eq_nil_iff] at q; rw [q] at hl; simp at hl)
  simp only [List.length_map] at e
  rw [e] at hO hR
  obtain ⟨b, off, cap', n, e2, hn, hc⟩ := hR.at l hl
  simp only [Value.slice.injEq, Option.some.injEq, Addr.mk.injEq] at e2
  obtain ⟨⟨rfl, rfl, _⟩, _, rfl⟩ := e2
  have hS := fun v : Int => hO.set (by simp) l hl 0 (by omega) (.int .i64 v)
  have hw : s.way a l = n := by rw [Sk.way_get]; simp [List.getD, hn]
  refine ⟨g, cap, e, hg1, hg2, by rw [hw]; simpa using hc, ?_, fun v => ?_⟩
  · have := (hS 0).2.2
    simpa using this
  · have hS1 := (hS v).1
    have hG := (hS v).2.1
    rw [irow_set _ _ _ hl] at hS1
    simp only [Nat.mul_one, Nat.add_zero] at hS1 hG
    refine ⟨⟨?_, ?_, ?_, ?_, h.apart⟩, hG⟩
    · rw [Sk.set_es]; exact h.ents
    · refine h.nodes.far hG ?_
      have := own_own_ne h.nodes.2 hO.2 ht
      simpa [Value.ownBlock] using this
    · cases a with
      | zero =>
        simp only [wayV] at e
        rw [e]
        exact hS1
      | succ k =>
        refine h.head.far hG ?_
        have hk : k < es.length := by rw [h.read.len]; omega
        have ap := (List.pairwise_cons.1 h.apart).1 (es[k]).2 (List.mem_map.2 ⟨es[k], by simp, rfl⟩)
        have e3 : es[k].2 = .slice (some ⟨g, 0, none⟩) (s.ways (k + 1)).length cap := by
          rw [← e]; simp [wayV, List.getD, hk]
        rw [e3] at ap
        simpa [Apart, Value.ownBlock] using ap
    · intro j p hj
      have hold := h.nexts j p hj
      have hj' : j < es.length := (List.getElem?_eq_some_iff.1 hj).1
      have hjn : j < s.nodes.length := by rw [← h.read.len]; exact hj'
      rw [Sk.set_at]
      by_cases q : a = j + 1
      · subst q
        rw [if_pos ⟨rfl, hjn⟩]
        have e3 : p.2 = .slice (some ⟨g, 0, none⟩) (s.ways (j + 1)).length cap := by
          rw [← e]; simp [wayV, List.getD, hj]
        rw [e3]
        exact hS1
      · rw [if_neg (fun r => q r.1)]
        refine hold.far hG ?_
        have ap : Apart p.2 (wayV vH es a) := by
          cases a with
          | zero =>
            exact ((List.pairwise_cons.1 h.apart).1 p.2 (List.mem_map.2 ⟨p, List.mem_of_getElem? hj, rfl⟩)).symm
          | succ k =>
            have hk : k < es.length := by rw [h.read.len]; omega
            have pw := (List.pairwise_cons.1 h.apart).2
            have hkj : k ≠ j := by omega
            have hpj : p = es[j] := by
              have := List.getElem?_eq_some_iff.1 hj
              exact this.2.symm
            have hwk : wayV vH es (k + 1) = es[k].2 := by simp [wayV, List.getD, hk]
            rw [hwk, hpj]
            rw [List.pairwise_iff_getElem] at pw
            rcases Nat.lt_or_ge j k with r | r
            · have := pw j k (by simpa using hj') (by simpa using hk) r
              simpa using this
            · have := pw k j (by simpa using hk) (by simpa using hj') (by omega)
              exact (by simpa using this : Apart es[k].2 es[j].2).symm
        rw [e] at ap
        simpa [Apart, Value.ownBlock] using ap
end Go.Proofs.YthiegmhplnbdlaaGreat

namespace Go.Proofs.YthiegmhplnbdlaaGreat
open Go.RowKit
set_option linter.unusedVariables false
set_option linter.unusedSimpArgs false
theorem Tryz.info124 : (Tryz.prog.info? 124).map (fun i => (i.zero, i.size, i.bytes)) = some (some (.agg #[.string ⟨#[]⟩, .int .i64 0, .int .i64 0, .string ⟨#[]⟩, .slice none 0 0]), 5, 72) := by kernel_rfl
def Sk.snoc (s : Sk) (y : En) (nx : List Int) : Sk := ⟨s.nodes ++ [(y, nx)], s.head⟩
theorem Sk.snoc_at (s : Sk) (y : En) (nx : List Int) (k : Nat) (hk : k < s.nodes.length) : (s.snoc y nx).at' k = s.at' k := by
  simp [Sk.snoc, Sk.at', List.getD, List.getElem?_append_left hk]
theorem Sk.snoc_last (s : Sk) (y : En) (nx : List Int) : (s.snoc y nx).at' s.nodes.length = (y, nx) := by
  simp [Sk.snoc, Sk.at', List.getD]
theorem Sk.snoc_es (s : Sk) (y : En) (nx : List Int) : (s.snoc y nx).es = s.es ++ [y] := by simp [Sk.snoc, Sk.es]
theorem Sk.snoc_len (s : Sk) (y : En) (nx : List Int) : (s.snoc y nx).nodes.length = s.nodes.length + 1 := by simp [Sk.snoc]
theorem OwnR.apart_new {w w' : World} {b1 : Nat} {e1 e2 : TypeId} {s1 s2 : Nat} {v1 v2 : Value} {x1 x2 : List (List Value)} (h1 : OwnR w b1 e1 s1 v1 x1) (h2 : OwnR w' w.heap.size e2 s2 v2 x2) : Apart v1 v2 := by
  unfold Apart
  cases hv : v1.ownBlock with
  | none => exact .inl rfl
  | some b =>
    refine .inr ?_
    intro q
    have a1 := (h1.2.lt b hv).2
    have a2 := (h2.2.lt b q.symm).1
    omega
theorem OwnSk.apart_new {w w' : World} {base : Nat} {t e2 : TypeId} {s2 : Nat} {vN vH v2 : Value} {s : Sk} {es : List (En × Value)} {x2 : List (List Value)} (h : OwnSk w base t vN vH s es) (h2 : OwnR w' w.heap.size e2 s2 v2 x2) : Apart vH v2 ∧ ∀ p ∈ es, Apart p.2 v2 :=
  ⟨h.head.apart_new h2, fun p hp => by
    obtain ⟨k, hk⟩ := List.mem_iff_getElem?.1 hp
    exact (h.nexts k p hk).apart_new h2⟩
theorem OwnSk.addRow {w w1 : World} {base T : Nat} {tN tS : TypeId} {vN vH v' vI : Value} {s : Sk} {es : List (En × Value)} {y : En} {nx : List Int} (h : OwnSk w base tN vN vH s es) (hT : w.heap[T]? = some (.cells #[vN, vH] tS)) (ne1 : tN ≠ 3) (ne2 : tS ≠ 3) (ne3 : tN ≠ tS)
    (hI : OwnR w base 3 1 vI (nx.map irow)) (hap : Apart vH vI ∧ ∀ p ∈ es, Apart p.2 vI) (hg : w.grownBy w1 vN.ownBlock) (ho : OwnR w1 base tN 5 v' (es.map nrow ++ [nrow (y, vI)])) :
    w1.heap[T]? = some (.cells #[vN, vH] tS) ∧ (w1.setCell ⟨T, 0, none⟩ v').heap[T]? = some (.cells #[v', vH] tS) ∧ OwnSk (w1.setCell ⟨T, 0, none⟩ v') base tN v' vH (s.snoc y nx) (es ++ [(y, vI)]) ∧ ∀ B, B ≤ base → B ≤ T → B ≤ w.heap.size → Below B w (w1.setCell ⟨T, 0, none⟩ v') := by
  have nT : some T ≠ vN.ownBlock := by
    rcases own_blk_ne h.nodes.2 hT ne3 with q | q
    · rw [q]; simp
    · exact fun e => q e.symm
  have b1 := blk_grown hT hg nT
  have g2 := grown_set w1 ⟨T, 0, none⟩ v'
  have hH1 := h.head.far hg (own_own_ne h.head.2 h.nodes.2 (Ne.symm ne1))
  have hI1 := hI.far hg (own_own_ne hI.2 h.nodes.2 (Ne.symm ne1))
  refine ⟨b1, ?_, ⟨?_, ?_, ?_, ?_, ?_⟩, ?_⟩
  · have := blk_set b1 0 v'
    simp only [List.setIfInBounds_toArray, List.set_cons_zero] at this
    exact this
  · rw [Sk.snoc_es, List.map_append, h.ents]
    rfl
  · rw [List.map_append]
    exact ho.far g2 (own_blk_ne ho.2 b1 ne3)
  · exact hH1.far g2 (own_blk_ne hH1.2 b1 (Ne.symm ne2))
  · intro k p hk
    have hl := h.read.len
    by_cases q : k < es.length
    · rw [List.getElem?_append_left q] at hk
      have a := h.nexts k p hk
      have a1 := a.far hg (own_own_ne a.2 h.nodes.2 (Ne.symm ne1))
      rw [Sk.snoc_at _ _ _ _ (by omega)]
      exact a1.far g2 (own_blk_ne a1.2 b1 (Ne.symm ne2))
    · have hk' := (List.getElem?_eq_some_iff.1 hk).1
      simp only [List.length_append, List.length_cons, List.length_nil] at hk'
      obtain rfl : k = es.length := by omega
      simp at hk
      subst hk
      rw [hl, Sk.snoc_last]
      exact hI1.far g2 (own_blk_ne hI1.2 b1 (Ne.symm ne2))
  · have e : (vH :: List.map (fun x => x.2) (es ++ [(y, vI)])) = (vH :: es.map (·.2)) ++ [vI] := by simp
    rw [e, List.pairwise_append]
    refine ⟨h.apart, by simp, fun a ha b hb => ?_⟩
    simp at hb
    subst hb
    rcases List.mem_cons.1 ha with rfl | r
    · exact hap.1
    · obtain ⟨p, hp, rfl⟩ := List.mem_map.1 r
      exact hap.2 p hp
  · intro B h1 h2 h3
    refine ((Below.refl B w).grown hg h3 (fun k hk => ?_)).grown g2 (Nat.le_trans h3 hg.size) (fun k hk => ?_)
    · have := (h.nodes.2.lt k hk).1
      omega
    · injection hk with hk
      rw [← hk]
      exact h2
theorem nrow_one {w : World} (y : En) (a : Option Addr) (n c : Nat) : ∀ cs ∈ [nrow (y, .slice a n c)], ∀ u ∈ cs, u.oneCell' = true := by
  intro cs hcs u hu
  simp at hcs
  subst hcs
  simp [nrow, enRow] at hu
  rcases hu with rfl | rfl | rfl | rfl | rfl <;> rfl
theorem results_st {fn : Func} {q : Nat} {t : TypeId} (h : fn.results = #[.cell q t]) (hl : t = 39 ∨ t = 39) (tmps : Array Value) (w : World) {N : Nat} {a b : Value} (ht : tmps.getD q undef = .pointer (some ⟨N, 0, none⟩))
    (hc : w.heap[N]? = some (.cells #[a, b] t)) : (results fn tmps).run Tryz.prog w = .ok (.agg #[a, b]) w := by
  have c0 := blk_cell hc 0 a rfl
  have c1 := blk_cell hc 1 b rfl
  have ht' : tmps[q]?.getD undef = .pointer (some ⟨N, 0, none⟩) := by simpa using ht
  rcases hl with rfl | rfl
  · simp only [results, h]
    simp [ht', go_sem, c0, c1]
  · simp only [results, h]
    simp [ht', go_sem, c0, c1]
theorem results_st2 {fn : Func} {q r : Nat} {t : TypeId} (h : fn.results = #[.cell q t, .tmp r]) (hl : t = 39 ∨ t = 39) (tmps : Array Value) (w : World) {N : Nat} {a b : Value} (ht : tmps.getD q undef = .pointer (some ⟨N, 0, none⟩))
    (hc : w.heap[N]? = some (.cells #[a, b] t)) : (results fn tmps).run Tryz.prog w = .ok (.tuple #[.agg #[a, b], tmps.getD r undef]) w := by
  have c0 := blk_cell hc 0 a rfl
  have c1 := blk_cell hc 1 b rfl
  have ht' : tmps[q]?.getD undef = .pointer (some ⟨N, 0, none⟩) := by simpa using ht
  rcases hl with rfl | rfl
  · simp only [results, h]
    simp [ht', go_sem, c0, c1]
  · simp only [results, h]
    simp [ht', go_sem, c0, c1]
theorem set2_blk {w : World} {N : Nat} {t : TypeId} {x0 x1 : Value} (h : w.heap[N]? = some (.cells #[x0, x1] t)) (a b : Value) : ((w.setCell ⟨N, 0, none⟩ a).setCell ⟨N, 1, none⟩ b).heap[N]? = some (.cells #[a, b] t) := by
  have := blk_set (blk_set h 0 a) 1 b
  simpa only [List.setIfInBounds_toArray, List.set_cons_zero, List.set_cons_succ] using this
theorem set2_grown (w : World) (N : Nat) (a b : Value) : w.grownBy ((w.setCell ⟨N, 0, none⟩ a).setCell ⟨N, 1, none⟩ b) (some N) :=
  grown_trans (grown_set w ⟨N, 0, none⟩ a) (grown_set _ ⟨N, 1, none⟩ b)
def OpenK (w : World) (base T : Nat) (tN tS : TypeId) (vN vH : Value) (s : Sk) (es : List (En × Value)) : Prop := w.heap[T]? = some (.cells #[vN, vH] tS) ∧ OwnSk w base tN vN vH s es
theorem OpenK.up {w w' : World} {base T : Nat} {tN tS : TypeId} {vN vH : Value} {s : Sk} {es : List (En × Value)} (h : OpenK w base T tN tS vN vH s es) (hb : Below w.heap.size w w') : OpenK w' base T tN tS vN vH s es := ⟨blk_up h.1 hb, h.2.up hb⟩
end Go.Proofs.YthiegmhplnbdlaaGreat
