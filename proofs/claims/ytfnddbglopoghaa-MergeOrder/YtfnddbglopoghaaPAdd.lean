/- A node is added to a list of one's own; the results of functions that return a list. -/
import Derived.Test.YtfnddbglopoghaaPMem
namespace Go.Proofs.Ytfnddbglopoghaa
open Go.RowKit
set_option linter.unusedVariables false
set_option linter.unusedSimpArgs false

theorem Try.info107 : (Try.prog.info? 107).map (fun i => (i.zero, i.size, i.bytes)) = some (some (.agg #[.string ⟨#[]⟩, .int .i64 0, .int .i64 0, .string ⟨#[]⟩, .slice none 0 0]), 5, 72) := by kernel_rfl
def Sk.snoc (s : Sk) (y : En) (nx : List Int) : Sk := ⟨s.nodes ++ [(y, nx)], s.head⟩
theorem Sk.snoc_at (s : Sk) (y : En) (nx : List Int) (k : Nat) (hk : k < s.nodes.length) : (s.snoc y nx).at' k = s.at' k := by
  simp [Sk.snoc, Sk.at', List.getD, List.getElem?_append_left hk]
theorem Sk.snoc_last (s : Sk) (y : En) (nx : List Int) : (s.snoc y nx).at' s.nodes.length = (y, nx) := by
  simp [Sk.snoc, Sk.at', List.getD]
theorem Sk.snoc_es (s : Sk) (y : En) (nx : List Int) : (s.snoc y nx).es = s.es ++ [y] := by simp [Sk.snoc, Sk.es]
theorem Sk.snoc_len (s : Sk) (y : En) (nx : List Int) : (s.snoc y nx).nodes.length = s.nodes.length + 1 := by simp [Sk.snoc]

theorem nrow_len (es : List (En × Value)) : ∀ cs ∈ es.map nrow, cs.length = 5 := by
  intro cs h
  obtain ⟨p, _, rfl⟩ := List.mem_map.1 h
  rfl
theorem OwnR.apart_new {w w' : World} {b1 : Nat} {e1 e2 : TypeId} {s1 s2 : Nat} {v1 v2 : Value} {x1 x2 : List (List Value)} (h1 : OwnR w b1 e1 s1 v1 x1) (h2 : OwnR w' w.heap.size e2 s2 v2 x2) : Apart v1 v2 := by
  unfold Apart
  cases hv : v1.ownBlock with
  | none => exact .inl rfl
  | some b =>
    refine .inr ?_
    intro q
    have a1 := (h1.2.lt b hv).2
    have a2 := (h2.2.lt b q.symm).1
    omega
theorem OwnSk.apart_new {w w' : World} {base : Nat} {t e2 : TypeId} {s2 : Nat} {vN vH v2 : Value} {s : Sk} {es : List (En × Value)} {x2 : List (List Value)} (h : OwnSk w base t vN vH s es) (h2 : OwnR w' w.heap.size e2 s2 v2 x2) : Apart vH v2 ∧ ∀ p ∈ es, Apart p.2 v2 :=
  ⟨h.head.apart_new h2, fun p hp => by
    obtain ⟨k, hk⟩ := List.mem_iff_getElem?.1 hp
    exact (h.nexts k p hk).apart_new h2⟩

/-- A node is added: the slice of the nodes grows, and its new value is stored. -/
theorem OwnSk.addRow {w w1 : World} {base T : Nat} {tN tS : TypeId} {vN vH v' vI : Value} {s : Sk} {es : List (En × Value)} {y : En} {nx : List Int} (h : OwnSk w base tN vN vH s es) (hT : w.heap[T]? = some (.cells #[vN, vH] tS)) (ne1 : tN ≠ 3) (ne2 : tS ≠ 3) (ne3 : tN ≠ tS)
    (hI : OwnR w base 3 1 vI (nx.map irow)) (hap : Apart vH vI ∧ ∀ p ∈ es, Apart p.2 vI) (hg : w.grownBy w1 vN.ownBlock) (ho : OwnR w1 base tN 5 v' (es.map nrow ++ [nrow (y, vI)])) :
    w1.heap[T]? = some (.cells #[vN, vH] tS) ∧ (w1.setCell ⟨T, 0, none⟩ v').heap[T]? = some (.cells #[v', vH] tS) ∧ OwnSk (w1.setCell ⟨T, 0, none⟩ v') base tN v' vH (s.snoc y nx) (es ++ [(y, vI)]) ∧ ∀ B, B ≤ base → B ≤ T → B ≤ w.heap.size → Below B w (w1.setCell ⟨T, 0, none⟩ v') := by
  have nT : some T ≠ vN.ownBlock := by
    rcases own_blk_ne h.nodes.2 hT ne3 with q | q
    · rw [q]; simp
    · exact fun e => q e.symm
  have b1 := blk_grown hT hg nT
  have g2 := grown_set w1 ⟨T, 0, none⟩ v'
  have hH1 := h.head.far hg (own_own_ne h.head.2 h.nodes.2 (Ne.symm ne1))
  have hI1 := hI.far hg (own_own_ne hI.2 h.nodes.2 (Ne.symm ne1))
  refine ⟨b1, ?_, ⟨?_, ?_, ?_, ?_, ?_⟩, ?_⟩
  · have := blk_set b1 0 v'
    simp only [List.setIfInBounds_toArray, List.set_cons_zero] at this
    exact this
  · rw [Sk.snoc_es, List.map_append, h.ents]
    rfl
  · rw [List.map_append]
    exact ho.far g2 (own_blk_ne ho.2 b1 ne3)
  · exact hH1.far g2 (own_blk_ne hH1.2 b1 (Ne.symm ne2))
  · intro k p hk
    have hl := h.read.len
    by_cases q : k < es.length
    · rw [List.getElem?_append_left q] at hk
      have a := h.nexts k p hk
      have a1 := a.far hg (own_own_ne a.2 h.nodes.2 (Ne.symm ne1))
      rw [Sk.snoc_at _ _ _ _ (by omega)]
      exact a1.far g2 (own_blk_ne a1.2 b1 (Ne.symm ne2))
    · have hk' := (List.getElem?_eq_some_iff.1 hk).1
      simp only [List.length_append, List.length_cons, List.length_nil] at hk'
      obtain rfl : k = es.length := by omega
      simp at hk
      subst hk
      rw [hl, Sk.snoc_last]
      exact hI1.far g2 (own_blk_ne hI1.2 b1 (Ne.symm ne2))
  · have e : (vH :: List.map (fun x => x.2) (es ++ [(y, vI)])) = (vH :: es.map (·.2)) ++ [vI] := by simp
    rw [e, List.pairwise_append]
    refine ⟨h.apart, by simp, fun a ha b hb => ?_⟩
    simp at hb
    subst hb
    rcases List.mem_cons.1 ha with rfl | r
    · exact hap.1
    · obtain ⟨p, hp, rfl⟩ := List.mem_map.1 r
      exact hap.2 p hp
  · intro B h1 h2 h3
    refine ((Below.refl B w).grown hg h3 (fun k hk => ?_)).grown g2 (Nat.le_trans h3 hg.size) (fun k hk => ?_)
    · have := (h.nodes.2.lt k hk).1
      omega
    · injection hk with hk
      rw [← hk]
      exact h2
theorem nrow_one {w : World} (y : En) (a : Option Addr) (n c : Nat) : ∀ cs ∈ [nrow (y, .slice a n c)], ∀ u ∈ cs, u.oneCell' = true := by
  intro cs hcs u hu
  simp at hcs
  subst hcs
  simp [nrow, enRow] at hu
  rcases hu with rfl | rfl | rfl | rfl | rfl <;> rfl
theorem results_st {fn : Func} {q : Nat} {t : TypeId} (h : fn.results = #[.cell q t]) (hl : t = 79 ∨ t = 79) (tmps : Array Value) (w : World) {N : Nat} {a b : Value} (ht : tmps.getD q undef = .pointer (some ⟨N, 0, none⟩))
    (hc : w.heap[N]? = some (.cells #[a, b] t)) : (results fn tmps).run Try.prog w = .ok (.agg #[a, b]) w := by
  have c0 := blk_cell hc 0 a rfl
  have c1 := blk_cell hc 1 b rfl
  have ht' : tmps[q]?.getD undef = .pointer (some ⟨N, 0, none⟩) := by simpa using ht
  rcases hl with rfl | rfl
  · simp only [results, h]
    simp [ht', go_sem, c0, c1]
  · simp only [results, h]
    simp [ht', go_sem, c0, c1]
theorem results_st2 {fn : Func} {q r : Nat} {t : TypeId} (h : fn.results = #[.cell q t, .tmp r]) (hl : t = 79 ∨ t = 79) (tmps : Array Value) (w : World) {N : Nat} {a b : Value} (ht : tmps.getD q undef = .pointer (some ⟨N, 0, none⟩))
    (hc : w.heap[N]? = some (.cells #[a, b] t)) : (results fn tmps).run Try.prog w = .ok (.tuple #[.agg #[a, b], tmps.getD r undef]) w := by
  have c0 := blk_cell hc 0 a rfl
  have c1 := blk_cell hc 1 b rfl
  have ht' : tmps[q]?.getD undef = .pointer (some ⟨N, 0, none⟩) := by simpa using ht
  rcases hl with rfl | rfl
  · simp only [results, h]
    simp [ht', go_sem, c0, c1]
  · simp only [results, h]
    simp [ht', go_sem, c0, c1]
theorem set2_blk {w : World} {N : Nat} {t : TypeId} {x0 x1 : Value} (h : w.heap[N]? = some (.cells #[x0, x1] t)) (a b : Value) : ((w.setCell ⟨N, 0, none⟩ a).setCell ⟨N, 1, none⟩ b).heap[N]? = some (.cells #[a, b] t) := by
  have := blk_set (blk_set h 0 a) 1 b
  simpa only [List.setIfInBounds_toArray, List.set_cons_zero, List.set_cons_succ] using this
theorem set2_grown (w : World) (N : Nat) (a b : Value) : w.grownBy ((w.setCell ⟨N, 0, none⟩ a).setCell ⟨N, 1, none⟩ b) (some N) :=
  grown_trans (grown_set w ⟨N, 0, none⟩ a) (grown_set _ ⟨N, 1, none⟩ b)
/-- A list in memory of one's own, its value in a block. -/
def OpenK (w : World) (base T : Nat) (tN tS : TypeId) (vN vH : Value) (s : Sk) (es : List (En × Value)) : Prop := w.heap[T]? = some (.cells #[vN, vH] tS) ∧ OwnSk w base tN vN vH s es
theorem OpenK.up {w w' : World} {base T : Nat} {tN tS : TypeId} {vN vH : Value} {s : Sk} {es : List (En × Value)} (h : OpenK w base T tN tS vN vH s es) (hb : Below w.heap.size w w') : OpenK w' base T tN tS vN vH s es := ⟨blk_up h.1 hb, h.2.up hb⟩
end Go.Proofs.Ytfnddbglopoghaa
