/- What is above a text, as plain lists: it is above all that begin with the text, and nothing else is between. -/
import Derived.Test.YtjnbjooagdgfpaaAlive
namespace Go.Proofs.Ytjnbjooagdgfpaa
open Go.RowKit
set_option linter.unusedVariables false

theorem lessL_head (x y : Int) (h : x < y) (r q : List Int) : lessL (x :: r) (y :: q) = true := by simp [lessL, h]
theorem lessL_same (x : Int) (r q : List Int) : lessL (x :: r) (x :: q) = lessL r q := by simp [lessL]
theorem lessL_not (x y : Int) (h : y < x) (r q : List Int) : lessL (x :: r) (y :: q) = false := by
  have h1 : ¬ x < y := by omega
  have h2 : ¬ x = y := by omega
  simp [lessL, h1, h2]
theorem lessL_pre : ∀ (p r q : List Int), lessL (p ++ r) (p ++ q) = lessL r q
  | [], r, q => rfl
  | x :: p, r, q => by rw [List.cons_append, List.cons_append, lessL_same, lessL_pre p r q]
theorem lessL_self : ∀ l : List Int, lessL l l = false
  | [] => rfl
  | x :: r => by rw [lessL_same, lessL_self r]

/-- Does t begin with s? -/
def beginsL (t s : List Int) : Bool := decide (s.length ≤ t.length) && decide (t.take s.length = s)

theorem begins_cons (x : Int) (t s : List Int) : beginsL (x :: t) (x :: s) = beginsL t s := by
  unfold beginsL
  simp

/-- Octets that are not below a row of 255s begin with it. -/
theorem full_begins : ∀ (r q : List Int), (∀ x ∈ r, x = 255) → (∀ x ∈ q, 0 ≤ x ∧ x ≤ 255) → beginsL q r = !lessL q r
  | [], q, _, _ => by
    have : lessL q [] = false := by cases q <;> rfl
    rw [this]
    simp [beginsL]
  | x :: r, [], _, _ => by simp [beginsL, lessL]
  | x :: r, z :: q, hr, hq => by
    have hx := hr x (by simp)
    have hz := hq z (by simp)
    subst hx
    by_cases c : z = 255
    · subst c
      rw [begins_cons, lessL_same, full_begins r q (fun y hy => hr y (by simp [hy])) (fun y hy => hq y (by simp [hy]))]
    · rw [lessL_head z 255 (by omega)]
      simp [beginsL, c]

theorem above_between : ∀ (p : List Int) (y : Int) (r t : List Int), (∀ x ∈ r, x = 255) → (∀ x ∈ t, 0 ≤ x ∧ x ≤ 255) →
    beginsL t (p ++ y :: r) = (!lessL t (p ++ y :: r) && lessL t (p ++ [y + 1]))
  | [], y, r, [], _, _ => by simp [beginsL, lessL]
  | [], y, r, z :: q, hr, ht => by
    rw [List.nil_append, List.nil_append]
    rcases Int.lt_trichotomy z y with c | c | c
    · rw [lessL_head z y c]
      have : ¬ z = y := by omega
      simp [beginsL, this]
    · subst c
      rw [begins_cons, lessL_same, lessL_head z (z + 1) (by omega), full_begins r q hr (fun x hx => ht x (by simp [hx]))]
      simp
    · have h0 : ¬ z = y := by omega
      by_cases d : z = y + 1
      · subst d
        have : lessL q [] = false := by cases q <;> rfl
        rw [lessL_same, this]
        simp [beginsL, h0]
      · rw [lessL_not z (y + 1) (by omega)]
        simp [beginsL, h0]
  | x :: p, y, r, [], _, _ => by simp [beginsL, lessL]
  | x :: p, y, r, z :: q, hr, ht => by
    rw [List.cons_append, List.cons_append]
    rcases Int.lt_trichotomy z x with c | c | c
    · rw [lessL_head z x c]
      have : ¬ z = x := by omega
      simp [beginsL, this]
    · subst c
      rw [begins_cons, lessL_same, lessL_same]
      exact above_between p y r q hr (fun x hx => ht x (by simp [hx]))
    · have h0 : ¬ z = x := by omega
      rw [lessL_not z x c, lessL_not z x c]
      simp [beginsL, h0]

theorem topK_le (l : List Int) : ∀ k, topK l k ≤ k
  | 0 => Nat.le_refl _
  | k + 1 => by
    unfold topK
    split
    · have := topK_le l k; omega
    · omega

theorem topK_top (l : List Int) : ∀ k i, topK l k ≤ i → i < k → l.getD i 0 = 255
  | 0, i, _, h => by omega
  | k + 1, i, h1, h2 => by
    unfold topK at h1
    split at h1
    · by_cases e : i = k
      · subst e; assumption
      · exact topK_top l k i h1 (by omega)
    · omega

theorem topK_at (l : List Int) : ∀ k j, topK l k = j + 1 → ¬ l.getD j 0 = 255
  | 0, j, h => by cases h
  | k + 1, j, h => by
    unfold topK at h
    split at h
    · exact topK_at l k j h
    · have : k = j := by omega
      subst this
      assumption

/-- The two ways of Above. -/
theorem above_cases (l : List Int) : (aboveOf l = ([], false) ∧ ∀ i, i < l.length → l.getD i 0 = 255) ∨
    ∃ p y r, aboveOf l = (p ++ [y + 1], true) ∧ l = p ++ y :: r ∧ (∀ x ∈ r, x = 255) ∧ ¬ y = 255 := by
  have hle := topK_le l l.length
  have htop := topK_top l l.length
  have hat := topK_at l l.length
  unfold aboveOf
  generalize topK l l.length = k at *
  cases k with
  | zero => exact .inl ⟨by simp, fun i hi => htop i (Nat.zero_le _) hi⟩
  | succ j =>
    refine .inr ⟨l.take j, l.getD j 0, l.drop (j + 1), by simp, ?_, ?_, hat j rfl⟩
    · have hj : j < l.length := by omega
      have e : l.getD j 0 = l[j] := by simp [List.getD, hj]
      rw [e, ← List.drop_eq_getElem_cons hj, List.take_append_drop]
    · intro x hx
      obtain ⟨i, hi, rfl⟩ := List.getElem_of_mem hx
      have hi' : j + 1 + i < l.length := by simp at hi; omega
      have := htop (j + 1 + i) (by omega) hi'
      simp only [List.getD, List.getElem?_eq_getElem hi', Option.getD_some] at this
      rw [List.getElem_drop]
      exact this
end Go.Proofs.Ytjnbjooagdgfpaa
