/- Plain facts: what Put, Get and All tell. -/
import Derived.Test.YtfnddbglopoghaaMPut
import Derived.Test.YtfnddbglopoghaaPLeaf
namespace Go.Proofs.Ytfnddbglopoghaa
open Go.RowKit
set_option linter.unusedVariables false
set_option linter.unusedSimpArgs false

/-- On level 0 a cut parts the order at x, and the way there comes to what is behind. -/
theorem cut0 {s : Sk} {x : En} {a : Nat} (g : Good s) (h : CutAt s s.ord x 0 a) : ∃ A B, s.ord = A ++ B ∧ (∀ k ∈ A, beforeE (s.at' k).1 x = true) ∧ (∀ k ∈ B, beforeE (s.at' k).1 x = false) ∧ ((B = [] ∧ s.way a 0 = 0) ∨ ∃ k B', B = k :: B' ∧ s.way a 0 = (k : Int) + 1 ∧ k < s.nodes.length) := by
  obtain ⟨P, R, e, hE, hP, hR⟩ := h
  have hin : ∀ k ∈ R, 0 < s.h k := by
    intro k hk
    have : k < s.nodes.length := (g.mem k).1 (by rw [e]; simp [hk])
    have := (g.high k this).1
    omega
  have hl := g.link 0 (by omega)
  rw [e] at hl
  have hw := chain_way hl hE
  refine ⟨P, R, e, hP, fun k hk => hR k hk (hin k hk), ?_⟩
  cases R with
  | nil => exact .inl ⟨rfl, hw⟩
  | cons k B' =>
    have := (chain_in (hin k (by simp))).1 hw
    exact .inr ⟨k, B', rfl, this.1, (g.mem k).1 (by rw [e]; simp)⟩
theorem twin_shift {a b c : En} (h : beforeE a b = true) (t : twin b c = true) : beforeE a c = true := by
  simp only [twin, Bool.and_eq_true, beq_iff_eq, decide_eq_true_eq] at t
  simp only [beforeE, ← t.1, ← t.2] at *
  exact h
theorem cut_none {s : Sk} {x : En} {a : Nat} (g : Good s) (h : CutAt s s.ord x 0 a) (hz : s.way a 0 = 0) : ∀ k, k < s.nodes.length → twin (s.at' k).1 x = false := by
  obtain ⟨A, B, e, hA, hB, q⟩ := cut0 g h
  rcases q with ⟨rfl, _⟩ | ⟨k, B', _, hk, _⟩
  · intro k hk
    have : k ∈ A := by
      have := (g.mem k).2 hk
      rw [e] at this
      simpa using this
    cases t : twin (s.at' k).1 x
    · rfl
    · have := hA k this
      rw [twin_before t] at this
      cases this
  · omega
theorem cut_some {s : Sk} {x : En} {a : Nat} (g : Good s) (h : CutAt s s.ord x 0 a) (hz : s.way a 0 ≠ 0) : ∃ k : Nat, s.way a 0 = (k : Int) + 1 ∧ k < s.nodes.length ∧ (beforeE x (s.at' k).1 = false → twin (s.at' k).1 x = true) ∧ (beforeE x (s.at' k).1 = true → ∀ j, j < s.nodes.length → twin (s.at' j).1 x = false) := by
  obtain ⟨A, B, e, hA, hB, q⟩ := cut0 g h
  rcases q with ⟨_, hk⟩ | ⟨k, B', eB, hk, hkn⟩
  · exact absurd hk hz
  · refine ⟨k, hk, hkn, fun hb => before_total (hB k (by rw [eB]; simp)) hb, fun hb j hj => ?_⟩
    cases t : twin (s.at' j).1 x
    · rfl
    · exfalso
      have hm := (g.mem j).2 hj
      rw [e] at hm
      rcases List.mem_append.1 hm with r | r
      · have := hA j r
        rw [twin_before t] at this
        cases this
      · rw [eB] at r
        rcases List.mem_cons.1 r with rfl | r
        · rw [twin_before (twin_symm t)] at hb
          cases hb
        · have hs := g.srt
          rw [e, eB] at hs
          unfold Srt at hs
          rw [List.pairwise_append] at hs
          have := (List.pairwise_cons.1 hs.2.1).1 j r
          rw [Sk.eAt, Sk.eAt] at this
          have h2 := hB k (by rw [eB]; simp)
          rw [twin_shift this t] at h2
          cases h2

/-- The error of Put. -/
def errP (s : Sk) (x : En) (h : Int) : Int :=
  if checkS s = false then 9 else if mayE x = false then 1 else if reachP h = false then 4 else if s.es.any (fun e => twin e x) = true then 6 else if s.nodes.length = 4096 then 51 else 0
/-- What Put answers. -/
def IsPut (s : Sk) (x : En) (h : Int) (t : Sk) : Prop := (errP s x h ≠ 0 → t = ⟨[], []⟩) ∧ (errP s x h = 0 → Good t ∧ t.es = s.es ++ [x] ∧ t.hs = s.hs ++ [h.toNat])
theorem IsPut.one {s t u : Sk} {x : En} {h : Int} (a : IsPut s x h t) (b : IsPut s x h u) : t = u := by
  by_cases q : errP s x h = 0
  · obtain ⟨g1, e1, h1⟩ := a.2 q
    obtain ⟨g2, e2, h2⟩ := b.2 q
    have he : t.es = u.es := e1.trans e2.symm
    have hl : t.nodes.length = u.nodes.length := by rw [← Sk.es_len, ← Sk.es_len, he]
    have ho : t.ord = u.ord := by unfold Sk.ord; rw [he, hl]
    refine linked_unique g1.link (by rw [ho]; exact g2.link) he (h1.trans h2.symm) (fun k hk => (g1.mem k).2 hk) g1.high8 g1.head g2.head
  · rw [a.1 q, b.1 q]
theorem es_any (s : Sk) (x : En) : s.es.any (fun e => twin e x) = true ↔ ∃ k, k < s.nodes.length ∧ twin (s.at' k).1 x = true := by
  rw [List.any_eq_true]
  constructor
  · rintro ⟨e, he, ht⟩
    obtain ⟨k, hk⟩ := List.mem_iff_getElem?.1 he
    have hk' := (List.getElem?_eq_some_iff.1 hk).1
    refine ⟨k, by rw [← Sk.es_len]; exact hk', ?_⟩
    rw [← Sk.eAt]
    have : eAt s.es k = e := by simp [eAt, List.getD, hk]
    rw [this]
    exact ht
  · rintro ⟨k, hk, ht⟩
    refine ⟨eAt s.es k, ?_, by rw [Sk.eAt]; exact ht⟩
    have hk' : k < s.es.length := by rw [Sk.es_len]; exact hk
    simp [eAt, List.getD, hk']

/-- All versions, in order. -/
def Sk.all (s : Sk) : List En := s.ord.map fun k => (s.at' k).1
/-- The first version of a key with at most a number. -/
def firstS (l : List En) (key : ByteArray) (seq : Int) : Option En := l.find? fun e => (e.key.toList == key.toList) && decide (e.seq ≤ seq)
theorem key_total {a b : ByteArray} (h1 : Op.bytesLess a.toList b.toList = false) (h2 : ¬ a.toList = b.toList) : Op.bytesLess b.toList a.toList = true := by
  cases q : Op.bytesLess b.toList a.toList
  · exact absurd (blS_total _ _ h1 q) h2
  · rfl
theorem get_none {s : Sk} {x : En} {a : Nat} (g : Good s) (h : CutAt s s.ord x 0 a) (hz : s.way a 0 = 0) : firstS s.all x.key x.seq = none := by
  obtain ⟨A, B, e, hA, hB, q⟩ := cut0 g h
  rcases q with ⟨rfl, _⟩ | ⟨k, B', _, hk, _⟩
  · unfold firstS Sk.all
    rw [List.find?_eq_none]
    intro y hy
    rw [e, List.append_nil] at hy
    obtain ⟨k, hk, rfl⟩ := List.mem_map.1 hy
    have hb := hA k hk
    simp only [beforeE, Bool.or_eq_true, Bool.and_eq_true, beq_iff_eq, decide_eq_true_eq] at hb
    simp only [Bool.and_eq_true, beq_iff_eq, decide_eq_true_eq, not_and]
    intro e1
    rcases hb with hb | ⟨_, hb⟩
    · rw [e1, blS_self] at hb; cases hb
    · omega
  · omega
theorem get_some {s : Sk} {x : En} {a : Nat} (g : Good s) (h : CutAt s s.ord x 0 a) (k : Nat) (hz : s.way a 0 = (k : Int) + 1) : firstS s.all x.key x.seq = if (s.at' k).1.key.toList = x.key.toList then some (s.at' k).1 else none := by
  obtain ⟨A, B, e, hA, hB, q⟩ := cut0 g h
  rcases q with ⟨_, hk⟩ | ⟨k', B', eB, hk, hkn⟩
  · omega
  · obtain rfl : k' = k := by omega
    have hAn : (A.map fun k => (s.at' k).1).find? (fun e => (e.key.toList == x.key.toList) && decide (e.seq ≤ x.seq)) = none := by
      rw [List.find?_eq_none]
      intro y hy
      obtain ⟨j, hj, rfl⟩ := List.mem_map.1 hy
      have hb := hA j hj
      simp only [beforeE, Bool.or_eq_true, Bool.and_eq_true, beq_iff_eq, decide_eq_true_eq] at hb
      simp only [Bool.and_eq_true, beq_iff_eq, decide_eq_true_eq, not_and]
      intro e1
      rcases hb with hb | ⟨_, hb⟩
      · rw [e1, blS_self] at hb; cases hb
      · omega
    unfold firstS Sk.all
    rw [e, List.map_append, List.find?_append, hAn, Option.none_or, eB, List.map_cons]
    have hbk := hB k' (by rw [eB]; simp)
    simp only [beforeE, Bool.or_eq_false_iff, Bool.and_eq_false_iff, beq_eq_false_iff_ne, decide_eq_false_iff_not] at hbk
    by_cases hq : (s.at' k').1.key.toList = x.key.toList
    · rw [if_pos hq]
      have hseq : (s.at' k').1.seq ≤ x.seq := by
        rcases hbk.2 with r | r
        · exact absurd hq r
        · omega
      rw [List.find?_cons_of_pos]
      simp [hq, hseq]
    · rw [if_neg hq, List.find?_eq_none]
      have hgt : Op.bytesLess x.key.toList (s.at' k').1.key.toList = true := key_total hbk.1 hq
      intro y hy
      simp only [Bool.and_eq_true, beq_iff_eq, decide_eq_true_eq, not_and]
      intro e1
      exfalso
      rcases List.mem_cons.1 hy with rfl | hy
      · exact hq e1
      · obtain ⟨j, hj, rfl⟩ := List.mem_map.1 hy
        have hs := g.srt
        rw [e, eB] at hs
        unfold Srt at hs
        rw [List.pairwise_append] at hs
        have hb := (List.pairwise_cons.1 hs.2.1).1 j hj
        rw [Sk.eAt, Sk.eAt] at hb
        simp only [beforeE, Bool.or_eq_true, Bool.and_eq_true, beq_iff_eq, decide_eq_true_eq] at hb
        rcases hb with hb | ⟨hb, _⟩
        · have := blS_trans _ _ _ hgt hb
          rw [e1, blS_self] at this
          cases this
        · rw [← e1, ← hb, blS_self] at hgt
          cases hgt
end Go.Proofs.Ytfnddbglopoghaa
