/- Plain facts: lists of nodes and their ways; what it is that the ways go through the nodes in order. -/
import Derived.Test.YtfnddbglopoghaaMOrd
namespace Go.Proofs.Ytfnddbglopoghaa
open Go.RowKit
set_option linter.unusedVariables false
set_option linter.unusedSimpArgs false

/-- A list of chapter 7. -/
structure Sk where
  nodes : List (En × List Int)
  head : List Int
def Sk.at' (s : Sk) (k : Nat) : En × List Int := s.nodes.getD k default
def Sk.h (s : Sk) (k : Nat) : Nat := (s.at' k).2.length
def Sk.nx (s : Sk) (k l : Nat) : Int := (s.at' k).2.getD l 0
def Sk.hd (s : Sk) (l : Nat) : Int := s.head.getD l 0
def Sk.es (s : Sk) : List En := s.nodes.map (·.1)
def Sk.hs (s : Sk) : List Nat := s.nodes.map (·.2.length)
/-- The way on level l of the node of number a, of the head where that is 0. -/
def Sk.way (s : Sk) : Nat → Nat → Int
  | 0, l => s.hd l
  | k + 1, l => s.nx k l
def Sk.ord (s : Sk) : List Nat := orderF s.es s.nodes.length

theorem Sk.eAt (s : Sk) (k : Nat) : eAt s.es k = (s.at' k).1 := by
  unfold Go.Proofs.Ytfnddbglopoghaa.eAt Sk.es Sk.at'
  by_cases h : k < s.nodes.length
  · simp [List.getD, h]
  · simp [List.getD, h]
    rfl
theorem Sk.es_len (s : Sk) : s.es.length = s.nodes.length := by simp [Sk.es]

/-- On level l the way w goes through just those of the places p that are so high, in that order. -/
def chainOK (h : Nat → Nat) (nx : Nat → Nat → Int) (l : Nat) : List Nat → Int → Prop
  | [], w => w = 0
  | k :: p, w => (l < h k → w = (k : Int) + 1 ∧ chainOK h nx l p (nx k l)) ∧ (¬ l < h k → chainOK h nx l p w)
def Linked (s : Sk) (p : List Nat) : Prop := ∀ l, l < 8 → chainOK s.h s.nx l p (s.hd l)

theorem chain_in {h : Nat → Nat} {nx : Nat → Nat → Int} {l k : Nat} {p : List Nat} {w : Int} (hk : l < h k) : chainOK h nx l (k :: p) w ↔ w = (k : Int) + 1 ∧ chainOK h nx l p (nx k l) := by
  rw [chainOK]
  exact ⟨fun q => q.1 hk, fun q => ⟨fun _ => q, fun n => absurd hk n⟩⟩
theorem chain_out {h : Nat → Nat} {nx : Nat → Nat → Int} {l k : Nat} {p : List Nat} {w : Int} (hk : ¬ l < h k) : chainOK h nx l (k :: p) w ↔ chainOK h nx l p w := by
  rw [chainOK]
  exact ⟨fun q => q.2 hk, fun q => ⟨fun n => absurd n hk, fun _ => q⟩⟩
theorem chain_congr {h h' : Nat → Nat} {nx nx' : Nat → Nat → Int} {l : Nat} : ∀ (p : List Nat) (w : Int), (∀ k ∈ p, h k = h' k ∧ (l < h k → nx k l = nx' k l)) → (chainOK h nx l p w ↔ chainOK h' nx' l p w)
  | [], w, _ => Iff.rfl
  | k :: p, w, H => by
    have hk := H k (by simp)
    have ih := fun v => chain_congr (h := h) (h' := h') (nx := nx) (nx' := nx') (l := l) p v (fun j hj => H j (by simp [hj]))
    by_cases q : l < h k
    · rw [chain_in q, chain_in (by rw [← hk.1]; exact q), ih, hk.2 q]
    · rw [chain_out q, chain_out (by rw [← hk.1]; exact q), ih]
theorem chain_skip {h : Nat → Nat} {nx : Nat → Nat → Int} {l : Nat} : ∀ (p q : List Nat) (w : Int), (∀ k ∈ p, ¬ l < h k) → (chainOK h nx l (p ++ q) w ↔ chainOK h nx l q w)
  | [], q, w, _ => Iff.rfl
  | k :: p, q, w, H => by
    rw [List.cons_append, chain_out (H k (by simp)), chain_skip p q w (fun j hj => H j (by simp [hj]))]
theorem chain_suffix {h : Nat → Nat} {nx : Nat → Nat → Int} {l k : Nat} {r : List Nat} : ∀ (p : List Nat) (w : Int), chainOK h nx l (p ++ k :: r) w → l < h k → chainOK h nx l r (nx k l)
  | [], w, H, hk => ((chain_in hk).1 H).2
  | j :: p, w, H, hk => by
    rw [List.cons_append] at H
    by_cases q : l < h j
    · exact chain_suffix p _ ((chain_in q).1 H).2 hk
    · exact chain_suffix p _ ((chain_out q).1 H) hk
/-- What comes behind a node that is so high may be another chain. -/
theorem chain_mid {h h' : Nat → Nat} {nx nx' : Nat → Nat → Int} {l k : Nat} {r r' : List Nat} : ∀ (p : List Nat) (w : Int), chainOK h nx l (p ++ k :: r) w → l < h k → h k = h' k → (∀ j ∈ p, h j = h' j ∧ (l < h j → nx j l = nx' j l)) → chainOK h' nx' l r' (nx' k l) → chainOK h' nx' l (p ++ k :: r') w
  | [], w, H, hk, e, _, B => by
    exact (chain_in (by rw [← e]; exact hk)).2 ⟨((chain_in hk).1 H).1, B⟩
  | j :: p, w, H, hk, e, C, B => by
    rw [List.cons_append] at H ⊢
    have cj := C j (by simp)
    have C' := fun i hi => C i (List.mem_cons_of_mem j hi)
    by_cases q : l < h j
    · have H' := (chain_in q).1 H
      refine (chain_in (by rw [← cj.1]; exact q)).2 ⟨H'.1, ?_⟩
      rw [← cj.2 q]
      exact chain_mid p _ H'.2 hk e C' B
    · exact (chain_out (by rw [← cj.1]; exact q)).2 (chain_mid p _ ((chain_out q).1 H) hk e C' B)
theorem chain_unique {h : Nat → Nat} {nx nx' : Nat → Nat → Int} {l : Nat} : ∀ (p : List Nat) (w w' : Int), chainOK h nx l p w → chainOK h nx' l p w' → w = w' ∧ ∀ k ∈ p, l < h k → nx k l = nx' k l
  | [], w, w', H, H' => ⟨by unfold chainOK at H H'; rw [H, H'], fun k hk => by cases hk⟩
  | k :: p, w, w', H, H' => by
    by_cases q : l < h k
    · have a := (chain_in q).1 H
      have b := (chain_in q).1 H'
      have ih := chain_unique p _ _ a.2 b.2
      refine ⟨by rw [a.1, b.1], fun j hj hl => ?_⟩
      rcases List.mem_cons.1 hj with rfl | r
      · exact ih.1
      · exact ih.2 j r hl
    · have ih := chain_unique p _ _ ((chain_out q).1 H) ((chain_out q).1 H')
      refine ⟨ih.1, fun j hj hl => ?_⟩
      rcases List.mem_cons.1 hj with rfl | r
      · exact absurd hl q
      · exact ih.2 j r hl

theorem ints_ext {a b : List Int} (hl : a.length = b.length) (h : ∀ i, i < a.length → a.getD i 0 = b.getD i 0) : a = b := by
  refine List.ext_getElem hl (fun i h1 h2 => ?_)
  have := h i h1
  simpa [List.getD, h1, h2] using this

/-- Two lists of the same versions and heights, with ways through them in the same order, are one. -/
theorem linked_unique {s t : Sk} {p : List Nat} (hs : Linked s p) (ht : Linked t p) (he : s.es = t.es) (hh : s.hs = t.hs) (hp : ∀ k, k < s.nodes.length → k ∈ p) (h8 : ∀ k, s.h k ≤ 8) (l1 : s.head.length = 8) (l2 : t.head.length = 8) : s = t := by
  have hlen : s.nodes.length = t.nodes.length := by
    have := congrArg List.length he
    simpa [Sk.es] using this
  have hkk : ∀ k, s.h k = t.h k := by
    intro k
    by_cases q : k < s.nodes.length
    · have := congrArg (fun m => m[k]?) hh
      simp only [Sk.hs, List.getElem?_map] at this
      simp [q, (show k < t.nodes.length by omega)] at this
      simp [Sk.h, Sk.at', List.getD, q, (show k < t.nodes.length by omega), this]
    · simp [Sk.h, Sk.at', List.getD, q, (show ¬ k < t.nodes.length by omega)]
  have hf : s.h = t.h := funext hkk
  have U : ∀ l, l < 8 → s.hd l = t.hd l ∧ ∀ k ∈ p, l < s.h k → s.nx k l = t.nx k l := by
    intro l hl
    have a := hs l hl
    have b := ht l hl
    rw [← hf] at b
    exact chain_unique p _ _ a b
  obtain ⟨sn, sh⟩ := s
  obtain ⟨tn, th⟩ := t
  have e1 : sh = th := ints_ext (by simp at l1 l2; omega) (fun i hi => (U i (by simp at l1; omega)).1)
  have e2 : sn = tn := by
    refine List.ext_getElem hlen (fun k h1 h2 => ?_)
    have a1 := congrArg (fun m => m[k]?) he
    simp only [Sk.es, List.getElem?_map] at a1
    simp [h1, h2] at a1
    have a2 : sn[k].2 = tn[k].2 := by
      have q := hkk k
      have g1 : (Sk.at' ⟨sn, sh⟩ k) = sn[k] := by simp [Sk.at', List.getD, h1]
      have g2 : (Sk.at' ⟨tn, th⟩ k) = tn[k] := by simp [Sk.at', List.getD, h2]
      have b8 := h8 k
      unfold Sk.h at q b8
      rw [g1] at q b8
      rw [g2] at q
      refine ints_ext q (fun i hi => ?_)
      have r := (U i (by omega)).2 k (hp k h1) (by unfold Sk.h; rw [g1]; exact hi)
      unfold Sk.nx at r
      rw [g1, g2] at r
      exact r
    exact Prod.ext a1 a2
  rw [e1, e2]

/-! ### the way of a node is set -/
def Sk.set (s : Sk) : Nat → Nat → Int → Sk
  | 0, l, v => { s with head := s.head.set l v }
  | k + 1, l, v => { s with nodes := s.nodes.set k ((s.at' k).1, (s.at' k).2.set l v) }
theorem Sk.set_len (s : Sk) (a l : Nat) (v : Int) : (s.set a l v).nodes.length = s.nodes.length := by cases a <;> simp [Sk.set]
theorem Sk.set_at (s : Sk) (a l : Nat) (v : Int) (j : Nat) : (s.set a l v).at' j = if a = j + 1 ∧ j < s.nodes.length then ((s.at' j).1, (s.at' j).2.set l v) else s.at' j := by
  cases a with
  | zero => simp [Sk.set, Sk.at']
  | succ k =>
    simp only [Sk.set, Sk.at', List.getD, List.getElem?_set]
    by_cases e : k = j
    · subst e
      by_cases h : k < s.nodes.length
      · simp [h]
      · simp [h]
    · have : ¬ (k + 1 = j + 1) := by omega
      simp [e, this]
theorem Sk.set_es (s : Sk) (a l : Nat) (v : Int) : (s.set a l v).es = s.es := by
  cases a with
  | zero => rfl
  | succ k =>
    simp only [Sk.set, Sk.es, List.map_set]
    refine List.ext_getElem (by simp) (fun i h1 h2 => ?_)
    rw [List.getElem_set]
    split
    · rename_i e
      subst e
      simp at h1 h2
      simp [Sk.at', List.getD, h2]
    · rfl
theorem Sk.set_h (s : Sk) (a l : Nat) (v : Int) (j : Nat) : (s.set a l v).h j = s.h j := by
  unfold Sk.h
  rw [Sk.set_at]
  split <;> simp
theorem Sk.set_hs (s : Sk) (a l : Nat) (v : Int) : (s.set a l v).hs = s.hs := by
  refine List.ext_getElem (by simp [Sk.hs, Sk.set_len]) (fun i h1 h2 => ?_)
  have := Sk.set_h s a l v i
  simp only [Sk.hs, List.length_map] at h1 h2
  simpa [Sk.hs, Sk.h, Sk.at', List.getD, h1, h2] using this
theorem Sk.set_head (s : Sk) (a l : Nat) (v : Int) : (s.set a l v).head.length = s.head.length := by cases a <;> simp [Sk.set]
theorem getD_set (m : List Int) (l i : Nat) (v : Int) : (m.set l v).getD i 0 = if i = l ∧ l < m.length then v else m.getD i 0 := by
  simp only [List.getD, List.getElem?_set]
  by_cases e : l = i
  · subst e
    by_cases h : l < m.length
    · simp [h]
    · simp [h]
  · simp [e, Ne.symm e]
theorem Sk.set_nx (s : Sk) (a l : Nat) (v : Int) (j i : Nat) : (s.set a l v).nx j i = if a = j + 1 ∧ j < s.nodes.length ∧ i = l ∧ l < s.h j then v else s.nx j i := by
  unfold Sk.nx
  rw [Sk.set_at]
  by_cases q : a = j + 1 ∧ j < s.nodes.length
  · rw [if_pos q, getD_set]
    simp [q.1, q.2, Sk.h]
  · rw [if_neg q, if_neg (fun r => q ⟨r.1, r.2.1⟩)]
theorem Sk.set_hd (s : Sk) (a l : Nat) (v : Int) (i : Nat) : (s.set a l v).hd i = if a = 0 ∧ i = l ∧ l < s.head.length then v else s.hd i := by
  cases a with
  | zero =>
    simp only [Sk.set, Sk.hd, true_and]
    exact getD_set _ _ _ _
  | succ k => simp [Sk.set, Sk.hd]
end Go.Proofs.Ytfnddbglopoghaa
