/- A list in memory of the call's own is overwritten, and what lies elsewhere is not felt. -/
import Derived.Test.YtmiokopnhkojoaaPCop
namespace Go.Proofs.Ytmiokopnhkojoaa
open Go.RowKit
set_option linter.unusedVariables false
set_option linter.unusedSimpArgs false

/-- The version of a node is set. -/
def Sk.setE (s : Sk) (k : Nat) (x : En) : Sk := { s with nodes := s.nodes.set k (x, (s.at' k).2) }
theorem Sk.setE_len (s : Sk) (k : Nat) (x : En) : (s.setE k x).nodes.length = s.nodes.length := by simp [Sk.setE]
theorem Sk.setE_at2 (s : Sk) (k : Nat) (x : En) (j : Nat) : ((s.setE k x).at' j).2 = (s.at' j).2 := by
  simp only [Sk.setE, Sk.at', List.getD, List.getElem?_set]
  by_cases e : k = j
  · subst e
    by_cases h : k < s.nodes.length
    · simp [h]
    · simp [h]
  · simp [e]
theorem Sk.setE_h (s : Sk) (k : Nat) (x : En) (j : Nat) : (s.setE k x).h j = s.h j := by unfold Sk.h; rw [Sk.setE_at2]
theorem Sk.setE_es (s : Sk) (k : Nat) (x : En) : (s.setE k x).es = s.es.set k x := by simp [Sk.setE, Sk.es, List.map_set]

theorem OwnSk.setE {w : World} {base : Nat} {t : TypeId} {vN vH : Value} {s : Sk} {es : List (En × Value)} (h : OwnSk w base t vN vH s es) (ht : t ≠ 3) (k : Nat) (hk : k < s.nodes.length) (f : Nat) (hf : f < 5) (u : Value) (x' : En) (hu : (nrow (es.getD k default)).set f u = nrow (x', (es.getD k default).2)) :
    ∃ g cap, vN = .slice (some ⟨g, 0, none⟩) s.nodes.length cap ∧ base ≤ g ∧ w.frozen? ⟨g, k * 5 + f, none⟩ = false ∧ OwnSk (w.setCell ⟨g, k * 5 + f, none⟩ u) base t vN vH (s.setE k x') (es.set k (x', (es.getD k default).2)) ∧ w.grownBy (w.setCell ⟨g, k * 5 + f, none⟩ u) (some g) := by
  have hk' : k < es.length := by rw [h.read.len]; exact hk
  have hO := h.nodes
  obtain ⟨g, cap, e, hg1, hg2⟩ := hO.block (by intro q; rw [List.map_eq_nil_iff] at q; rw [q] at hk'; simp at hk')
  simp only [List.length_map] at e
  have hS : _ := OwnR.set (css := es.map nrow) (by rw [← e]; exact hO) (by simp) k hk' f hf u
  have hR : (es.map nrow).set k (((es.map nrow).getD k []).set f u) = (es.set k (x', (es.getD k default).2)).map nrow := by
    rw [List.map_set]
    congr 1
    rw [← hu]
    simp [List.getD, hk']
  rw [hR, ← e] at hS
  obtain ⟨hS1, hG, hF⟩ := hS
  refine ⟨g, cap, by rw [e, h.read.len], hg1, hF, ⟨?_, hS1, ?_, ?_, ?_⟩, hG⟩
  · rw [Sk.setE_es, ← h.ents, List.map_set]
  · refine h.head.far hG ?_
    have := own_own_ne h.head.2 h.nodes.2 (Ne.symm ht)
    rw [e] at this
    simpa [Value.ownBlock] using this
  · intro j p hj
    rw [Sk.setE_at2]
    have hj' : j < es.length := by have := (List.getElem?_eq_some_iff.1 hj).1; simpa using this
    have hp : p.2 = es[j].2 := by
      simp only [List.getElem?_set] at hj
      by_cases q : k = j
      · subst q
        simp [hk'] at hj
        rw [← hj]
      · simp [q, hj'] at hj
        rw [hj]
    have hn := h.nexts j es[j] (by simp [hj'])
    rw [hp]
    refine hn.far hG ?_
    have := own_own_ne hn.2 h.nodes.2 (Ne.symm ht)
    rw [e] at this
    simpa [Value.ownBlock] using this
  · have : (es.set k (x', (es.getD k default).2)).map (·.2) = es.map (·.2) := by
      rw [List.map_set]
      refine List.ext_getElem (by simp) (fun i h1 h2 => ?_)
      simp only [List.getElem_set]
      split
      · next q => subst q; simp [List.getD, hk']
      · rfl
    rw [this]
    exact h.apart

def Und (T : Nat) (v : Value) : Prop := ∀ r, v.ownBlock = some r → r < T
theorem OwnR.und {w : World} {base : Nat} {e : TypeId} {sz : Nat} {v : Value} {css : List (List Value)} (h : OwnR w base e sz v css) : Und w.heap.size v := fun r hr => (h.2.lt r hr).2

/-- The list, as far as it is overwritten; and the rest. -/
structure Sp (w : World) (base T1 : Nat) (vN vH : Value) (n m : Nat) (R : World → Prop) (wr : World) (s : Sk) (es : List (En × Value)) : Prop where
  own : OwnSk wr base 62 vN vH s es
  hn : s.nodes.length = n
  hm : s.head.length = m
  un : Und T1 vN ∧ Und T1 vH ∧ ∀ p ∈ es, Und T1 p.2
  bw : w.heap.size ≤ base
  bel : Below w.heap.size w wr
  k1 : wr.heap[T1]? = some (.cells #[vN, vH] 30)
  rest : R wr
  hR : ∀ X Y g, g < T1 → X.grownBy Y (some g) → R X → R Y
theorem Sp.start {w w1 wr : World} {vN vH : Value} {R : World → Prop} {s : Sk} {es : List (En × Value)} {base : Nat} (O : OwnSk w1 base 62 vN vH s es) (hb : Below w1.heap.size w1 wr) (bw : w.heap.size ≤ base) (bel : Below w.heap.size w wr) (k1 : wr.heap[w1.heap.size]? = some (.cells #[vN, vH] 30)) (rest : R wr) (hR : ∀ X Y g, g < w1.heap.size → X.grownBy Y (some g) → R X → R Y) : Sp w base w1.heap.size vN vH s.nodes.length s.head.length R wr s es :=
  ⟨O.up hb, rfl, rfl, ⟨O.nodes.und, O.head.und, fun p hp => by
    obtain ⟨k, hk⟩ := List.mem_iff_getElem?.1 hp
    exact (O.nexts k p hk).und⟩, bw, bel, k1, rest, hR⟩
theorem Sp.set {w : World} {base T1 : Nat} {vN vH : Value} {n m : Nat} {R : World → Prop} {wr : World} {s : Sk} {es : List (En × Value)} (h : Sp w base T1 vN vH n m R wr s es) (a : Nat) (ha : a ≤ s.nodes.length) (l : Nat) (hl : l < (s.ways a).length) :
    ∃ g cap, wayV vH es a = .slice (some ⟨g, 0, none⟩) (s.ways a).length cap ∧ wr.cell? ⟨g, l, none⟩ = some (.int .i64 (s.way a l)) ∧ wr.frozen? ⟨g, l, none⟩ = false ∧
      ∀ v : Int, Sp w base T1 vN vH n m R (wr.setCell ⟨g, l, none⟩ (.int .i64 v)) (s.set a l v) es := by
  obtain ⟨g, cap, e, hg1, hg2, hc, hf, hs⟩ := h.own.set (by decide) a ha l hl
  have hT : g < T1 := by
    have hU : Und T1 (wayV vH es a) := by
      cases a with
      | zero => exact h.un.2.1
      | succ k =>
        have hk : k < es.length := by rw [h.own.read.len]; omega
        have := h.un.2.2 es[k] (by simp)
        simpa [wayV, List.getD, hk] using this
    exact hU g (by rw [e]; rfl)
  refine ⟨g, cap, e, hc, hf, fun v => ?_⟩
  obtain ⟨h1, hg⟩ := hs v
  have := h.bw
  exact ⟨h1, by rw [Sk.set_len, h.hn], by rw [Sk.set_head, h.hm], h.un, h.bw, h.bel.grown hg h.bel.size (fun k hk => by injection hk with hk; omega), blk_grown h.k1 hg (by simp; omega), h.hR _ _ g hT hg h.rest, h.hR⟩
theorem Sp.setE {w : World} {base T1 : Nat} {vN vH : Value} {n m : Nat} {R : World → Prop} {wr : World} {s : Sk} {es : List (En × Value)} (h : Sp w base T1 vN vH n m R wr s es) (k : Nat) (hk : k < s.nodes.length) (f : Nat) (hf : f < 5) (u : Value) (x' : En) (hu : (nrow (es.getD k default)).set f u = nrow (x', (es.getD k default).2)) {g cap : Nat} (e : vN = .slice (some ⟨g, 0, none⟩) n cap) :
    wr.frozen? ⟨g, k * 5 + f, none⟩ = false ∧ Sp w base T1 vN vH n m R (wr.setCell ⟨g, k * 5 + f, none⟩ u) (s.setE k x') (es.set k (x', (es.getD k default).2)) := by
  obtain ⟨g', cap', e', hg1, hF, h1, hg⟩ := h.own.setE (by decide) k hk f hf u x' hu
  obtain rfl : g = g' := by rw [e] at e'; simp at e'; exact e'.1
  have hT : g < T1 := h.un.1 g (by rw [e]; rfl)
  have := h.bw
  refine ⟨hF, h1, by rw [Sk.setE_len, h.hn], h.hm, ⟨h.un.1, h.un.2.1, ?_⟩, h.bw, h.bel.grown hg h.bel.size (fun k hk => by injection hk with hk; omega), blk_grown h.k1 hg (by simp; omega), h.hR _ _ g hT hg h.rest, h.hR⟩
  have hk' : k < es.length := by rw [h.own.read.len]; exact hk
  intro p hp
  rcases List.mem_or_eq_of_mem_set hp with q | q
  · exact h.un.2.2 p q
  · rw [q]
    have := h.un.2.2 es[k] (by simp)
    simpa [List.getD, hk'] using this
/-- A node's version is taken away. -/
theorem Sp.clear {w : World} {base T1 : Nat} {vN vH : Value} {n m : Nat} {R : World → Prop} {wr : World} {s : Sk} {es : List (En × Value)} (h : Sp w base T1 vN vH n m R wr s es) (k : Nat) (hk : k < s.nodes.length) {g cap : Nat} (e : vN = .slice (some ⟨g, 0, none⟩) n cap) :
    ∃ s' es', wr.frozen? ⟨g, k * 5, none⟩ = false ∧ wr.frozen? ⟨g, k * 5 + 1, none⟩ = false ∧ wr.frozen? ⟨g, k * 5 + 2, none⟩ = false ∧ wr.frozen? ⟨g, k * 5 + 3, none⟩ = false ∧ Sp w base T1 vN vH n m R ((((wr.setCell ⟨g, k * 5, none⟩ (.string ⟨#[]⟩)).setCell ⟨g, k * 5 + 1, none⟩ (.int .i64 0)).setCell ⟨g, k * 5 + 2, none⟩ (.int .i64 0)).setCell ⟨g, k * 5 + 3, none⟩ (.string ⟨#[]⟩)) s' es' := by
  have hk' : k < es.length := by rw [h.own.read.len]; exact hk
  have f1 := (h.setE k hk 1 (by omega) (.int .i64 0) { (es.getD k default).1 with seq := 0 } rfl e).1
  have f2 := (h.setE k hk 2 (by omega) (.int .i64 0) { (es.getD k default).1 with kind := 0 } rfl e).1
  have f3 := (h.setE k hk 3 (by omega) (.string ⟨#[]⟩) { (es.getD k default).1 with val := ⟨#[]⟩ } rfl e).1
  obtain ⟨f0, h0⟩ := h.setE k hk 0 (by omega) (.string ⟨#[]⟩) { (es.getD k default).1 with key := ⟨#[]⟩ } rfl e
  have l0 : (s.setE k { (es.getD k default).1 with key := ⟨#[]⟩ }).nodes.length = s.nodes.length := Sk.setE_len _ _ _
  generalize es.set k _ = es1 at h0
  generalize s.setE k _ = s1 at h0 l0
  have h1 := (h0.setE k (by rw [l0]; exact hk) 1 (by omega) (.int .i64 0) { (es1.getD k default).1 with seq := 0 } rfl e).2
  have l1 : (s1.setE k { (es1.getD k default).1 with seq := 0 }).nodes.length = s1.nodes.length := Sk.setE_len _ _ _
  generalize es1.set k _ = es2 at h1
  generalize s1.setE k _ = s2 at h1 l1
  have h2 := (h1.setE k (by rw [l1, l0]; exact hk) 2 (by omega) (.int .i64 0) { (es2.getD k default).1 with kind := 0 } rfl e).2
  have l2 : (s2.setE k { (es2.getD k default).1 with kind := 0 }).nodes.length = s2.nodes.length := Sk.setE_len _ _ _
  generalize es2.set k _ = es3 at h2
  generalize s2.setE k _ = s3 at h2 l2
  have h3 := (h2.setE k (by rw [l2, l1, l0]; exact hk) 3 (by omega) (.string ⟨#[]⟩) { (es3.getD k default).1 with val := ⟨#[]⟩ } rfl e).2
  exact ⟨_, _, f0, f1, f2, f3, h3⟩
theorem Sp.next {w : World} {base T1 : Nat} {vN vH : Value} {n m : Nat} {R : World → Prop} {wr : World} {s : Sk} {es : List (En × Value)} (h : Sp w base T1 vN vH n m R wr s es) (k : Nat) (hk : k < n) :
    ∃ g cap a c, vN = .slice (some ⟨g, 0, none⟩) n cap ∧ wayV vH es (k + 1) = .slice a (s.h k) c ∧ wr.cell? ⟨g, k * 5, none⟩ = some (.string (s.at' k).1.key) ∧ wr.cell? ⟨g, k * 5 + 1, none⟩ = some (.int .i64 (s.at' k).1.seq) ∧ wr.cell? ⟨g, k * 5 + 2, none⟩ = some (.int .i64 (s.at' k).1.kind) ∧ wr.cell? ⟨g, k * 5 + 3, none⟩ = some (.string (s.at' k).1.val) ∧ wr.cell? ⟨g, k * 5 + 4, none⟩ = some (.slice a (s.h k) c) ∧ (s.h k : Int) ≤ 9223372036854775807 := by
  have hk1 : k < s.nodes.length := by rw [h.hn]; exact hk
  have hk' : k < es.length := by rw [h.own.read.len]; exact hk1
  obtain ⟨g, cap, e, _, _⟩ := h.own.nodes.block (by intro q; rw [List.map_eq_nil_iff] at q; rw [q] at hk'; simp at hk')
  simp only [List.length_map] at e
  rw [h.own.read.len, h.hn] at e
  have hr := h.own.read
  rw [e] at hr
  obtain ⟨b, off, a, c, e2, _, hw, y0, y1, y2, y3, y4⟩ := hr.node k hk1
  simp only [Option.some.injEq, Addr.mk.injEq] at e2
  obtain ⟨rfl, rfl, _⟩ := e2
  simp only [Nat.zero_add] at y0 y1 y2 y3 y4
  refine ⟨g, cap, a, c, e, hw, y0, y1, y2, y3, y4, ?_⟩
  obtain ⟨_, _, _, h4, h5⟩ := (hr.way (k + 1) (by omega)).len
  unfold maxLen at h5
  simp only [Sk.ways] at h4 h5
  unfold Sk.h
  omega
end Go.Proofs.Ytmiokopnhkojoaa
