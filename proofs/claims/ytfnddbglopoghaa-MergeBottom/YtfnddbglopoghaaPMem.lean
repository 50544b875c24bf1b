/- Lists of chapter 7 in memory: read, and owned. -/
import Derived.Test.YtfnddbglopoghaaMLink
import Derived.Test.YtfnddbglopoghaaLHgt
import Derived.Test.YtfnddbglopoghaaLBlk
namespace Go.Proofs.Ytfnddbglopoghaa
open Go.RowKit
set_option linter.unusedVariables false
set_option linter.unusedSimpArgs false

/-- The slices vN and vH hold in w the list s; its nodes' ways lie in the slices of es. -/
structure SkE (w : World) (vN vH : Value) (s : Sk) (es : List (En × Value)) : Prop where
  ents : es.map (·.1) = s.es
  nodes : NodesE w vN es
  head : IntsR w vH s.head
  nexts : ∀ k p, es[k]? = some p → IntsR w p.2 (s.at' k).2
theorem SkE.up {w w' : World} {vN vH : Value} {s : Sk} {es : List (En × Value)} (h : SkE w vN vH s es) (hb : Below w.heap.size w w') : SkE w' vN vH s es :=
  ⟨h.ents, h.nodes.up hb, h.head.up hb, fun k p hk => (h.nexts k p hk).up hb⟩
theorem SkE.len {w : World} {vN vH : Value} {s : Sk} {es : List (En × Value)} (h : SkE w vN vH s es) : es.length = s.nodes.length := by
  have := congrArg List.length h.ents
  simpa [Sk.es] using this
/-- The slice of a node's ways, of the head's where the number is 0. -/
def wayV (vH : Value) (es : List (En × Value)) : Nat → Value
  | 0 => vH
  | k + 1 => (es.getD k default).2
def Sk.ways (s : Sk) : Nat → List Int
  | 0 => s.head
  | k + 1 => (s.at' k).2
theorem Sk.way_get (s : Sk) (a l : Nat) : s.way a l = (s.ways a).getD l 0 := by cases a <;> rfl
theorem SkE.way {w : World} {vN vH : Value} {s : Sk} {es : List (En × Value)} (h : SkE w vN vH s es) (a : Nat) (ha : a ≤ s.nodes.length) : IntsR w (wayV vH es a) (s.ways a) := by
  cases a with
  | zero => exact h.head
  | succ k =>
    have hk : k < es.length := by rw [h.len]; omega
    have := h.nexts k es[k] (by simp [hk])
    simp only [wayV, List.getD]
    simpa [hk, Sk.ways] using this
theorem SkE.form {w : World} {vN vH : Value} {s : Sk} {es : List (En × Value)} (h : SkE w vN vH s es) : (∃ a c, vN = .slice a s.nodes.length c) ∧ (∃ a c, vH = .slice a s.head.length c) := by
  obtain ⟨a, c, e, _⟩ := h.nodes.len
  obtain ⟨a', c', e', _⟩ := h.head.len
  rw [h.len] at e
  exact ⟨⟨a, c, e⟩, ⟨a', c', e'⟩⟩
theorem SkE.node {w : World} {a : Option Addr} {n c : Nat} {vH : Value} {s : Sk} {es : List (En × Value)} (h : SkE w (.slice a n c) vH s es) (k : Nat) (hk : k < s.nodes.length) :
    ∃ b off an cn, a = some ⟨b, off, none⟩ ∧ n = s.nodes.length ∧ wayV vH es (k + 1) = .slice an (s.h k) cn ∧ w.cell? ⟨b, off + k * 5, none⟩ = some (.string (s.at' k).1.key) ∧ w.cell? ⟨b, off + k * 5 + 1, none⟩ = some (.int .i64 (s.at' k).1.seq) ∧ w.cell? ⟨b, off + k * 5 + 2, none⟩ = some (.int .i64 (s.at' k).1.kind) ∧ w.cell? ⟨b, off + k * 5 + 3, none⟩ = some (.string (s.at' k).1.val) ∧ w.cell? ⟨b, off + k * 5 + 4, none⟩ = some (.slice an (s.h k) cn) := by
  have hk' : k < es.length := by rw [h.len]; exact hk
  obtain ⟨b, off, cap, x, sx, e, hx, c0, c1, c2, c3, c4⟩ := h.nodes.at k hk'
  simp only [Value.slice.injEq] at e
  obtain ⟨rfl, e2, rfl⟩ := e
  have ex : x = (s.at' k).1 := by
    have h1 := congrArg (fun m => m[k]?) h.ents
    simp only [List.getElem?_map, hx, Sk.es] at h1
    simp [hk] at h1
    simp [Sk.at', List.getD, hk, h1]
  subst ex
  have hw : wayV vH es (k + 1) = sx := by simp [wayV, List.getD, hx]
  have hi := h.nexts k _ hx
  obtain ⟨an, cn, e3, _⟩ := hi.len
  simp only at e3
  subst e3
  exact ⟨b, off, an, cn, rfl, by rw [e2, h.len], hw, c0, c1, c2, c3, c4⟩

/-- The list s in memory of the call's own, its nodes of the type t. -/
structure OwnSk (w : World) (base : Nat) (t : TypeId) (vN vH : Value) (s : Sk) (es : List (En × Value)) : Prop where
  ents : es.map (·.1) = s.es
  nodes : OwnR w base t 5 vN (es.map nrow)
  head : OwnR w base 3 1 vH (s.head.map irow)
  nexts : ∀ k p, es[k]? = some p → OwnR w base 3 1 p.2 ((s.at' k).2.map irow)
  apart : (vH :: es.map (·.2)).Pairwise Apart
theorem OwnSk.read {w : World} {base : Nat} {t : TypeId} {vN vH : Value} {s : Sk} {es : List (En × Value)} (h : OwnSk w base t vN vH s es) : SkE w vN vH s es :=
  ⟨h.ents, Rws.own h.nodes, Rws.own h.head, fun k p hk => Rws.own (h.nexts k p hk)⟩
theorem OwnSk.up {w w' : World} {base : Nat} {t : TypeId} {vN vH : Value} {s : Sk} {es : List (En × Value)} (h : OwnSk w base t vN vH s es) (hb : Below w.heap.size w w') : OwnSk w' base t vN vH s es :=
  ⟨h.ents, h.nodes.up hb, h.head.up hb, fun k p hk => (h.nexts k p hk).up hb, h.apart⟩
theorem OwnSk.mono {w : World} {base base' : Nat} {t : TypeId} {vN vH : Value} {s : Sk} {es : List (En × Value)} (h : OwnSk w base t vN vH s es) (hb : base' ≤ base) : OwnSk w base' t vN vH s es :=
  ⟨h.ents, h.nodes.mono hb, h.head.mono hb, fun k p hk => (h.nexts k p hk).mono hb, h.apart⟩
/-- What is written elsewhere is not felt. -/
theorem OwnSk.far {w w' : World} {base : Nat} {t : TypeId} {vN vH : Value} {s : Sk} {es : List (En × Value)} {r : Option Nat} (h : OwnSk w base t vN vH s es) (hg : w.grownBy w' r) (h1 : vN.ownBlock = none ∨ vN.ownBlock ≠ r) (h2 : vH.ownBlock = none ∨ vH.ownBlock ≠ r) (h3 : ∀ p ∈ es, p.2.ownBlock = none ∨ p.2.ownBlock ≠ r) : OwnSk w' base t vN vH s es :=
  ⟨h.ents, h.nodes.far hg h1, h.head.far hg h2, fun k p hk => (h.nexts k p hk).far hg (h3 p (List.mem_of_getElem? hk)), h.apart⟩
theorem OwnR.ne_lt {w : World} {base : Nat} {e : TypeId} {sz : Nat} {v : Value} {css : List (List Value)} (h : OwnR w base e sz v css) {r : Nat} (hr : r < base) : v.ownBlock = none ∨ v.ownBlock ≠ some r := by
  cases hv : v.ownBlock with
  | none => exact .inl rfl
  | some b =>
    refine .inr (fun q => ?_)
    injection q with q
    have := (h.2.lt b hv).1
    omega
theorem OwnSk.elder {w w' : World} {base : Nat} {t : TypeId} {vN vH : Value} {s : Sk} {es : List (En × Value)} {r : Nat} (h : OwnSk w base t vN vH s es) (hg : w.grownBy w' (some r)) (hr : r < base) : OwnSk w' base t vN vH s es :=
  h.far hg (h.nodes.ne_lt hr) (h.head.ne_lt hr) (fun p hp => by
    obtain ⟨k, hk⟩ := List.mem_iff_getElem?.1 hp
    exact (h.nexts k p hk).ne_lt hr)
theorem OwnSk.block {w w' : World} {base : Nat} {t T : TypeId} {vN vH : Value} {s : Sk} {es : List (En × Value)} {r : Nat} {cs : Array Value} {fr : Nat × Nat} (h : OwnSk w base t vN vH s es) (hb : w.heap[r]? = some (.cells cs T fr)) (h1 : t ≠ T) (h2 : 3 ≠ T) (hg : w.grownBy w' (some r)) : OwnSk w' base t vN vH s es :=
  h.far hg (own_blk_ne h.nodes.2 hb h1) (own_blk_ne h.head.2 hb h2) (fun p hp => by
    obtain ⟨k, hk⟩ := List.mem_iff_getElem?.1 hp
    exact own_blk_ne (h.nexts k p hk).2 hb h2)

theorem irow_set (l : List Int) (i : Nat) (v : Int) (hi : i < l.length) : (l.map irow).set i (((l.map irow).getD i []).set 0 (.int .i64 v)) = (l.set i v).map irow := by
  rw [List.map_set]
  congr 1
  simp [List.getD, hi, irow]
theorem OwnR.block {w : World} {base : Nat} {e : TypeId} {sz : Nat} {v : Value} {css : List (List Value)} (h : OwnR w base e sz v css) (hne : css ≠ []) : ∃ g cap, v = .slice (some ⟨g, 0, none⟩) css.length cap ∧ base ≤ g ∧ g < w.heap.size := by
  have h2 := h.2.2
  rcases h2 with ⟨rfl, h0⟩ | ⟨g, cap, cur, rfl, hg, hh, r⟩
  · exact absurd (List.length_eq_zero_iff.1 h0) hne
  · exact ⟨g, cap, rfl, hg, blk_lt hh⟩
/-- The way of a node, or of the head, is set. -/
theorem OwnSk.set {w : World} {base : Nat} {t : TypeId} {vN vH : Value} {s : Sk} {es : List (En × Value)} (h : OwnSk w base t vN vH s es) (ht : t ≠ 3) (a : Nat) (ha : a ≤ s.nodes.length) (l : Nat) (hl : l < (s.ways a).length) :
    ∃ g cap, wayV vH es a = .slice (some ⟨g, 0, none⟩) (s.ways a).length cap ∧ base ≤ g ∧ g < w.heap.size ∧ w.cell? ⟨g, l, none⟩ = some (.int .i64 (s.way a l)) ∧ w.frozen? ⟨g, l, none⟩ = false ∧
      ∀ v : Int, OwnSk (w.setCell ⟨g, l, none⟩ (.int .i64 v)) base t vN vH (s.set a l v) es ∧ w.grownBy (w.setCell ⟨g, l, none⟩ (.int .i64 v)) (some g) := by
  have hR := h.read.way a ha
  have hO : OwnR w base 3 1 (wayV vH es a) ((s.ways a).map irow) := by
    cases a with
    | zero => exact h.head
    | succ k =>
      have hk : k < es.length := by rw [h.read.len]; omega
      have := h.nexts k es[k] (by simp [hk])
      simp only [wayV, List.getD]
      simpa [hk, Sk.ways] using this
  obtain ⟨g, cap, e, hg1, hg2⟩ := hO.block (by intro q; rw [List.map_eq_nil_iff] at q; rw [q] at hl; simp at hl)
  simp only [List.length_map] at e
  rw [e] at hO hR
  obtain ⟨b, off, cap', n, e2, hn, hc⟩ := hR.at l hl
  simp only [Value.slice.injEq, Option.some.injEq, Addr.mk.injEq] at e2
  obtain ⟨⟨rfl, rfl, _⟩, _, rfl⟩ := e2
  have hS := fun v : Int => hO.set (by simp) l hl 0 (by omega) (.int .i64 v)
  have hw : s.way a l = n := by rw [Sk.way_get]; simp [List.getD, hn]
  refine ⟨g, cap, e, hg1, hg2, by rw [hw]; simpa using hc, ?_, fun v => ?_⟩
  · have := (hS 0).2.2
    simpa using this
  · have hS1 := (hS v).1
    have hG := (hS v).2.1
    rw [irow_set _ _ _ hl] at hS1
    simp only [Nat.mul_one, Nat.add_zero] at hS1 hG
    refine ⟨⟨?_, ?_, ?_, ?_, h.apart⟩, hG⟩
    · rw [Sk.set_es]; exact h.ents
    · refine h.nodes.far hG ?_
      have := own_own_ne h.nodes.2 hO.2 ht
      simpa [Value.ownBlock] using this
    · cases a with
      | zero =>
        simp only [wayV] at e
        rw [e]
        exact hS1
      | succ k =>
        refine h.head.far hG ?_
        have hk : k < es.length := by rw [h.read.len]; omega
        have ap := (List.pairwise_cons.1 h.apart).1 (es[k]).2 (List.mem_map.2 ⟨es[k], by simp, rfl⟩)
        have e3 : es[k].2 = .slice (some ⟨g, 0, none⟩) (s.ways (k + 1)).length cap := by
          rw [← e]; simp [wayV, List.getD, hk]
        rw [e3] at ap
        simpa [Apart, Value.ownBlock] using ap
    · intro j p hj
      have hold := h.nexts j p hj
      have hj' : j < es.length := (List.getElem?_eq_some_iff.1 hj).1
      have hjn : j < s.nodes.length := by rw [← h.read.len]; exact hj'
      rw [Sk.set_at]
      by_cases q : a = j + 1
      · subst q
        rw [if_pos ⟨rfl, hjn⟩]
        have e3 : p.2 = .slice (some ⟨g, 0, none⟩) (s.ways (j + 1)).length cap := by
          rw [← e]; simp [wayV, List.getD, hj]
        rw [e3]
        exact hS1
      · rw [if_neg (fun r => q r.1)]
        refine hold.far hG ?_
        have ap : Apart p.2 (wayV vH es a) := by
          cases a with
          | zero =>
            exact ((List.pairwise_cons.1 h.apart).1 p.2 (List.mem_map.2 ⟨p, List.mem_of_getElem? hj, rfl⟩)).symm
          | succ k =>
            have hk : k < es.length := by rw [h.read.len]; omega
            have pw := (List.pairwise_cons.1 h.apart).2
            have hkj : k ≠ j := by omega
            have hpj : p = es[j] := by
              have := List.getElem?_eq_some_iff.1 hj
              exact this.2.symm
            have hwk : wayV vH es (k + 1) = es[k].2 := by simp [wayV, List.getD, hk]
            rw [hwk, hpj]
            rw [List.pairwise_iff_getElem] at pw
            rcases Nat.lt_or_ge j k with r | r
            · have := pw j k (by simpa using hj') (by simpa using hk) r
              simpa using this
            · have := pw k j (by simpa using hk) (by simpa using hj') (by omega)
              exact (by simpa using this : Apart es[k].2 es[j].2).symm
        rw [e] at ap
        simpa [Apart, Value.ownBlock] using ap
end Go.Proofs.Ytfnddbglopoghaa
