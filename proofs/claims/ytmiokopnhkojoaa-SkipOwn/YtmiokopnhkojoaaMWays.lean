/- Plain facts: the document's ways, level by level. -/
import Derived.Test.YtmiokopnhkojoaaMCut
namespace Go.Proofs.Ytmiokopnhkojoaa
open Go.RowKit
set_option linter.unusedVariables false
set_option linter.unusedSimpArgs false

/-- All levels below L are joined, the others are empty. -/
structure WInv (s : Sk) (o : List Nat) (L : Nat) : Prop where
  done : ∀ l, l < L → chainOK s.h s.nx l o (s.hd l)
  zero : ∀ l, L ≤ l → s.hd l = 0 ∧ ∀ k, s.nx k l = 0
/-- The number a is that of the last of p that is as high as level L. -/
def LastIs (s : Sk) (p : List Nat) (L a : Nat) : Prop := (a = 0 ∧ ∀ k ∈ p, ¬ L < s.h k) ∨ ∃ A k B, p = A ++ k :: B ∧ a = k + 1 ∧ L < s.h k ∧ ∀ j ∈ B, ¬ L < s.h j
/-- Level L is joined through the first places. -/
structure WIn (s : Sk) (o : List Nat) (L : Nat) (p : List Nat) (a : Nat) : Prop where
  done : ∀ l, l < L → chainOK s.h s.nx l o (s.hd l)
  zero : ∀ l, L < l → s.hd l = 0 ∧ ∀ k, s.nx k l = 0
  here : chainOK s.h s.nx L p (s.hd L)
  rest : ∀ k, k ∉ p → s.nx k L = 0
  last : LastIs s p L a
theorem WInv.start {s : Sk} {o : List Nat} (h : ∀ l, s.hd l = 0 ∧ ∀ k, s.nx k l = 0) : WInv s o 0 := ⟨fun l hl => by omega, fun l _ => h l⟩
theorem WInv.open' {s : Sk} {o : List Nat} {L : Nat} (h : WInv s o L) : WIn s o L [] 0 :=
  ⟨h.done, fun l hl => h.zero l (by omega), (h.zero L (Nat.le_refl _)).1, fun k _ => (h.zero L (Nat.le_refl _)).2 k, .inl ⟨rfl, fun k hk => by cases hk⟩⟩
theorem WIn.close {s : Sk} {o : List Nat} {L a : Nat} (h : WIn s o L o a) : WInv s o (L + 1) := by
  refine ⟨fun l hl => ?_, fun l hl => h.zero l (by omega)⟩
  by_cases e : l = L
  · subst e; exact h.here
  · exact h.done l (by omega)
theorem chain_snoc {h : Nat → Nat} {nx : Nat → Nat → Int} {l k : Nat} (hk : ¬ l < h k) : ∀ (p : List Nat) (w : Int), chainOK h nx l p w → chainOK h nx l (p ++ [k]) w
  | [], w, H => (chain_out hk).2 H
  | j :: p, w, H => by
    rw [List.cons_append]
    by_cases q : l < h j
    · have := (chain_in q).1 H
      exact (chain_in q).2 ⟨this.1, chain_snoc hk p _ this.2⟩
    · exact (chain_out q).2 (chain_snoc hk p _ ((chain_out q).1 H))
theorem WIn.low {s : Sk} {o p : List Nat} {L a k : Nat} (h : WIn s o L p a) (hk : ¬ L < s.h k) : WIn s o L (p ++ [k]) a := by
  refine ⟨h.done, h.zero, chain_snoc hk p _ h.here, fun j hj => h.rest j (fun q => hj (by simp [q])), ?_⟩
  rcases h.last with ⟨e, q⟩ | ⟨A, j, B, e1, e2, e3, e4⟩
  · refine .inl ⟨e, fun j hj => ?_⟩
    rcases List.mem_append.1 hj with r | r
    · exact q j r
    · simp at r; subst r; exact hk
  · refine .inr ⟨A, j, B ++ [k], by rw [e1]; simp, e2, e3, fun i hi => ?_⟩
    rcases List.mem_append.1 hi with r | r
    · exact e4 i r
    · simp at r; subst r; exact hk
theorem WIn.high {s : Sk} {o p : List Nat} {L a k : Nat} (h : WIn s o L p a) (hk : L < s.h k) (hkn : k < s.nodes.length) (hnp : k ∉ p) (hnd : p.Nodup) (hp : ∀ j ∈ p, j < s.nodes.length) (h8 : L < s.head.length) : WIn (s.set a L ((k : Int) + 1)) o L (p ++ [k]) (k + 1) := by
  have hh : (s.set a L ((k : Int) + 1)).h = s.h := funext (Sk.set_h s a L _)
  have hother : ∀ l, l ≠ L → (s.set a L ((k : Int) + 1)).hd l = s.hd l ∧ ∀ j, (s.set a L ((k : Int) + 1)).nx j l = s.nx j l := by
    intro l hl
    refine ⟨?_, fun j => ?_⟩
    · rw [Sk.set_hd, if_neg (fun q => hl q.2.1)]
    · rw [Sk.set_nx, if_neg (fun q => hl q.2.2.1)]
  refine ⟨fun l hl => ?_, fun l hl => ?_, ?_, fun j hj => ?_, .inr ⟨p, k, [], rfl, rfl, by rw [hh]; exact hk, fun j hj => by cases hj⟩⟩
  · have q := hother l (by omega)
    rw [hh, q.1]
    exact (chain_congr o _ (fun j _ => ⟨rfl, fun _ => (q.2 j).symm⟩)).1 (h.done l hl)
  · have q := hother l (by omega)
    refine ⟨q.1.trans (h.zero l hl).1, fun j => (q.2 j).trans ((h.zero l hl).2 j)⟩
  · rw [hh]
    have hnk : (s.set a L ((k : Int) + 1)).nx k L = 0 := by
      rw [Sk.set_nx, if_neg ?_]
      · exact h.rest k hnp
      · rintro ⟨q, _⟩
        rcases h.last with ⟨e, _⟩ | ⟨A, j, B, e1, e2, _⟩
        · omega
        · have : j = k := by omega
          subst this
          exact hnp (by rw [e1]; simp)
    have htail : ∀ B : List Nat, (∀ j ∈ B, ¬ L < s.h j) → chainOK s.h (s.set a L ((k : Int) + 1)).nx L (B ++ [k]) ((k : Int) + 1) := by
      intro B hB
      refine (chain_skip B [k] _ hB).2 ((chain_in hk).2 ⟨rfl, ?_⟩)
      unfold chainOK
      exact hnk
    rcases h.last with ⟨e, q⟩ | ⟨A, j, B, e1, e2, e3, e4⟩
    · rw [Sk.set_hd, if_pos ⟨e, rfl, h8⟩]
      exact htail p q
    · have hjn : j < s.nodes.length := hp j (by rw [e1]; simp)
      rw [Sk.set_hd, if_neg (by omega), e1, List.append_assoc]
      have hc := h.here
      rw [e1] at hc
      refine chain_mid A _ hc e3 rfl (fun i hi => ⟨rfl, fun hl => ?_⟩) ?_
      · rw [Sk.set_nx, if_neg ?_]
        rintro ⟨q, _⟩
        have : i = j := by omega
        subst this
        rw [e1] at hnd
        exact (List.nodup_append.1 hnd).2.2 i hi i (by simp) rfl
      · have : (s.set a L ((k : Int) + 1)).nx j L = (k : Int) + 1 := by rw [Sk.set_nx, if_pos ⟨e2, hjn, rfl, e3⟩]
        rw [this]
        exact htail B e4
  · rw [Sk.set_nx, if_neg ?_]
    · exact h.rest j (fun q => hj (by simp [q]))
    · rintro ⟨q, _⟩
      rcases h.last with ⟨e, _⟩ | ⟨A, i, B, e1, e2, _⟩
      · omega
      · have : i = j := by omega
        subst this
        exact hj (by rw [e1]; simp)
end Go.Proofs.Ytmiokopnhkojoaa
