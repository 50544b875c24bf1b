/- The walk of the document's told of layer 10. -/
import Derived.Test.YtekoniaobmapdabG29
import Derived.Test.YtekoniaobmapdabYNum
namespace Go.Proofs.Ytekoniaobmapdab
open Go.RowKit SumPlain
set_option linter.unusedVariables false
set_option linter.unusedSimpArgs false

/-- Octets between two places, the address a letter. -/
theorem octs_part {W : World} {a : Option Addr} {c : Nat} {l : List Int} (h : Octs W (.slice a l.length c) l) (p q : Nat) (hpq : p ≤ q) (hq : q ≤ l.length) : Octs W (.slice (if c = p then a else a.map (fun x => x.add p)) (q - p) (c - p)) ((l.drop p).take (q - p)) := by
  have h1 := octs_from h p (by omega)
  generalize (if c = p then a else a.map (fun x => x.add p)) = A at *
  rcases h1.2 with ⟨e, a', cap, e2, e3⟩ | ⟨hne, b, off, cap, e2, hcap, hm, hc⟩
  · simp only [Value.slice.injEq] at e2
    have hl : (l.drop p).length = 0 := by rw [e]; rfl
    rw [List.length_drop] at hl
    rw [e, show q - p = 0 by omega]
    refine ⟨by simp, .inl ⟨by simp, A, c - p, rfl, fun hA => ?_⟩⟩
    rw [e2.2.2]
    exact e3 (by rw [← e2.1]; exact hA)
  · simp only [Value.slice.injEq] at e2
    obtain ⟨rfl, hn, rfl⟩ := e2
    exact h1.cut (by rw [List.length_drop]) (q - p) (by rw [List.length_drop]; omega)

/-- What the document's Get says of octets. -/
def GeR (x : List Int) (v j : Nat) (e : Int) : Prop := getOf x = ((v : Int), (j : Int), e) ∧ v ≤ 18446744073709551615 ∧ (e ≠ 0 ∨ (e = 0 ∧ 1 ≤ j ∧ j ≤ x.length))
theorem fget_len (l : List Int) : (fget l).2.1.length ≤ l.length := by
  unfold fget
  split
  · simp
  · split
    · simp
    · split
      · simp
      · split
        · simp
        · have := bare_le (l.take ((getOf l).2.1 + 1 + (getOf l).1 + 4).toNat)
          simp at this ⊢
          omega
theorem decB_len (b : List Int) : (decB b).1.length ≤ 64 := by
  by_cases h : (decB b).2 = 0
  · have e := enc_decB h
    unfold encB at e
    by_cases hc : chkB (decB b).1 = 0
    · exact (chkB_may hc).2.1
    · rw [if_neg hc] at e
      simp only [Prod.mk.injEq] at e
      exact absurd e.2 hc
  · rw [decB_bad h]; simp
end Go.Proofs.Ytekoniaobmapdab
