/- Plain facts: the last node of each level that comes ahead of a version. -/
import Derived.Test.YtfnddbglopoghaaMLink
namespace Go.Proofs.Ytfnddbglopoghaa
open Go.RowKit
set_option linter.unusedVariables false
set_option linter.unusedSimpArgs false

/-- The number a is that of the last place of P, which is as high as level l; 0 where P is empty. -/
def AtEnd (s : Sk) (P : List Nat) (a l : Nat) : Prop := (a = 0 ∧ P = []) ∨ ∃ P' k, P = P' ++ [k] ∧ a = k + 1 ∧ l < s.h k
/-- In the order o the number a cuts at x on level l: what is up to it comes ahead of x; behind it nothing that is so high does. -/
def CutAt (s : Sk) (o : List Nat) (x : En) (l a : Nat) : Prop := ∃ P R, o = P ++ R ∧ AtEnd s P a l ∧ (∀ k ∈ P, beforeE (s.at' k).1 x = true) ∧ (∀ k ∈ R, l < s.h k → beforeE (s.at' k).1 x = false)
/-- What is known in the midst of the search. -/
def CutOn (s : Sk) (o : List Nat) (x : En) (l a : Nat) : Prop := ∃ P R, o = P ++ R ∧ AtEnd s P a l ∧ ∀ k ∈ P, beforeE (s.at' k).1 x = true
theorem CutAt.on {s : Sk} {o : List Nat} {x : En} {l a : Nat} (h : CutAt s o x l a) : CutOn s o x l a := by
  obtain ⟨P, R, h1, h2, h3, _⟩ := h
  exact ⟨P, R, h1, h2, h3⟩
theorem CutOn.lower {s : Sk} {o : List Nat} {x : En} {l l' a : Nat} (h : CutOn s o x l a) (hl : l' ≤ l) : CutOn s o x l' a := by
  obtain ⟨P, R, h1, h2, h3⟩ := h
  refine ⟨P, R, h1, ?_, h3⟩
  rcases h2 with q | ⟨P', k, e1, e2, e3⟩
  · exact .inl q
  · exact .inr ⟨P', k, e1, e2, by omega⟩
theorem CutOn.start (s : Sk) (o : List Nat) (x : En) (l : Nat) : CutOn s o x l 0 := ⟨[], o, rfl, .inl ⟨rfl, rfl⟩, fun k hk => by cases hk⟩
theorem CutOn.bound {s : Sk} {o : List Nat} {x : En} {l a n : Nat} (h : CutOn s o x l a) (ho : ∀ k ∈ o, k < n) : a ≤ n := by
  obtain ⟨P, R, h1, h2, h3⟩ := h
  rcases h2 with ⟨q, _⟩ | ⟨P', k, e1, e2, e3⟩
  · omega
  · have := ho k (by rw [h1, e1]; simp)
    omega
/-- The ways of that node have the level. -/
theorem CutOn.high {s : Sk} {o : List Nat} {x : En} {l a : Nat} (h : CutOn s o x l a) (h8 : s.head.length = 8) (hl : l < 8) : (a = 0 → l < s.head.length) ∧ ∀ k, a = k + 1 → l < s.h k := by
  obtain ⟨P, R, h1, h2, h3⟩ := h
  refine ⟨fun _ => by omega, fun k hk => ?_⟩
  rcases h2 with ⟨q, _⟩ | ⟨P', k', e1, e2, e3⟩
  · omega
  · obtain rfl : k' = k := by omega
    exact e3
theorem chain_zero {h : Nat → Nat} {nx : Nat → Nat → Int} {l : Nat} : ∀ (R : List Nat) , chainOK h nx l R 0 → ∀ k ∈ R, ¬ l < h k
  | [], _, k, hk => by cases hk
  | j :: R, H, k, hk => by
    by_cases q : l < h j
    · have := ((chain_in q).1 H).1
      omega
    · rcases List.mem_cons.1 hk with rfl | r
      · exact q
      · exact chain_zero R ((chain_out q).1 H) k r
theorem chain_next {h : Nat → Nat} {nx : Nat → Nat → Int} {l : Nat} : ∀ (R : List Nat) (w : Int), chainOK h nx l R w → w ≠ 0 → ∃ (R1 : List Nat) (k : Nat) (R2 : List Nat), R = R1 ++ k :: R2 ∧ w = (k : Int) + 1 ∧ l < h k ∧ (∀ j ∈ R1, ¬ l < h j) ∧ chainOK h nx l R2 (nx k l)
  | [], w, H, hw => absurd H hw
  | j :: R, w, H, hw => by
    by_cases q : l < h j
    · have := (chain_in q).1 H
      exact ⟨[], j, R, rfl, this.1, q, (fun i hi => by cases hi), this.2⟩
    · obtain ⟨R1, k, R2, e, h1, h2, h3, h4⟩ := chain_next R w ((chain_out q).1 H) hw
      refine ⟨j :: R1, k, R2, by rw [e]; rfl, h1, h2, ?_, h4⟩
      intro i hi
      rcases List.mem_cons.1 hi with rfl | r
      · exact q
      · exact h3 i r
/-- The way behind the end of P goes on through the rest. -/
theorem chain_way {s : Sk} {P R : List Nat} {a l : Nat} (hL : chainOK s.h s.nx l (P ++ R) (s.hd l)) (hA : AtEnd s P a l) : chainOK s.h s.nx l R (s.way a l) := by
  rcases hA with ⟨rfl, rfl⟩ | ⟨P', k, rfl, rfl, hk⟩
  · exact hL
  · rw [List.append_assoc] at hL
    exact chain_suffix P' _ hL hk

theorem srt_app {l : List En} {A B : List Nat} (h : Srt l (A ++ B)) : ∀ a ∈ A, ∀ b ∈ B, beforeE (eAt l a) (eAt l b) = true := by
  unfold Srt at h
  rw [List.pairwise_append] at h
  exact h.2.2

/-- One step of the search: there is no further node, or there is one that comes ahead, or one that does not. -/
theorem cut_stop {s : Sk} {o : List Nat} {x : En} {l a : Nat} (hL : chainOK s.h s.nx l o (s.hd l)) (h : CutOn s o x l a) (hz : s.way a l = 0) : CutAt s o x l a := by
  obtain ⟨P, R, rfl, h2, h3⟩ := h
  have hw := chain_way hL h2
  rw [hz] at hw
  exact ⟨P, R, rfl, h2, h3, fun k hk hl => absurd hl (chain_zero R hw k hk)⟩
theorem cut_step {s : Sk} {o : List Nat} {x : En} {l a : Nat} (hL : chainOK s.h s.nx l o (s.hd l)) (hS : Srt s.es o) (h : CutOn s o x l a) (hz : s.way a l ≠ 0) :
    ∃ k, k ∈ o ∧ s.way a l = (k : Int) + 1 ∧ l < s.h k ∧ (beforeE (s.at' k).1 x = false → CutAt s o x l a) ∧ (beforeE (s.at' k).1 x = true → CutOn s o x l (k + 1)) ∧ (a = 0 ∨ ∃ j, a = j + 1 ∧ o.idxOf j < o.idxOf k) := by
  obtain ⟨P, R, rfl, h2, h3⟩ := h
  have hw := chain_way hL h2
  obtain ⟨R1, k, R2, rfl, e1, e2, e3, e4⟩ := chain_next R _ hw hz
  have hS1 : Srt s.es (R1 ++ k :: R2) := by
    unfold Srt at hS ⊢
    rw [List.pairwise_append] at hS
    exact hS.2.1
  have hS2 : Srt s.es (k :: R2) := by
    unfold Srt at hS1 ⊢
    rw [List.pairwise_append] at hS1
    exact hS1.2.1
  refine ⟨k, by simp, e1, e2, ?_, ?_, ?_⟩
  · intro hb
    refine ⟨P, R1 ++ k :: R2, rfl, h2, h3, fun j hj hl => ?_⟩
    rcases List.mem_append.1 hj with q | q
    · exact absurd hl (e3 j q)
    · rcases List.mem_cons.1 q with rfl | q
      · exact hb
      · cases r : beforeE (s.at' j).1 x
        · rfl
        · have t := (List.pairwise_cons.1 hS2).1 j q
          rw [Sk.eAt, Sk.eAt] at t
          rw [beforeS_trans t r] at hb
          cases hb
  · intro hb
    refine ⟨P ++ R1 ++ [k], R2, by simp, .inr ⟨P ++ R1, k, by simp, rfl, e2⟩, fun j hj => ?_⟩
    rcases List.mem_append.1 hj with q | q
    · rcases List.mem_append.1 q with q | q
      · exact h3 j q
      · have t := srt_app hS1 j q k (by simp)
        rw [Sk.eAt, Sk.eAt] at t
        exact beforeS_trans t hb
    · simp at q; subst q
      exact hb
  · rcases h2 with ⟨q, _⟩ | ⟨P', j, rfl, rfl, _⟩
    · exact .inl q
    · refine .inr ⟨j, rfl, ?_⟩
      have nd := Srt.nodup hS
      rw [List.append_assoc] at nd ⊢
      have a1 : (P' ++ ([j] ++ (R1 ++ k :: R2))).idxOf j = P'.length := by
        have hn : j ∉ P' := by
          intro hj
          exact (List.nodup_append.1 nd).2.2 j hj j (by simp) rfl
        rw [List.idxOf_append, if_neg hn]
        simp
      have a2 : P'.length < (P' ++ ([j] ++ (R1 ++ k :: R2))).idxOf k := by
        have hn : k ∉ P' := by
          intro hj
          exact (List.nodup_append.1 nd).2.2 k hj k (by simp) rfl
        rw [List.idxOf_append, if_neg hn]
        have hjk : j ≠ k := by
          intro e
          have nd2 := (List.nodup_append.1 nd).2.1
          rw [List.singleton_append, List.nodup_cons] at nd2
          exact nd2.1 (by rw [e]; simp)
        simp only [List.singleton_append]
        rw [List.idxOf_cons]
        have : (j == k) = false := by simpa using hjk
        simp [this]
      omega
end Go.Proofs.Ytfnddbglopoghaa
