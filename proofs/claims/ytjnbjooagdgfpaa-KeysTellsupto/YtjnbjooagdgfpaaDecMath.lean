/- Keys read, as plain lists: what is read is built again of what was read, and parts come back from their octets. -/
import Derived.Test.YtjnbjooagdgfpaaFirst
import Derived.Test.YtjnbjooagdgfpaaEnc
namespace Go.Proofs.Ytjnbjooagdgfpaa
open Go.RowKit
set_option linter.unusedVariables false

theorem txt_says : ∀ (n : Nat) (l : List Int), l.length ≤ n → ∀ (a : List Int) (k : Nat), (∀ x ∈ l, 0 ≤ x ∧ x ≤ 255) →
    (∃ e, txt a k l = ([], 0, e) ∧ (e = 8 ∨ e = 1)) ∨ ∃ t m, txt a k l = (a ++ t, k + m, 0) ∧ 2 ≤ m ∧ m ≤ l.length ∧ l.take m = esc t ++ [0, 1] ∧ (∀ x ∈ t, 0 ≤ x ∧ x ≤ 255) ∧ t.length + 2 ≤ m
  | 0, l, hn, a, k, hl => by
    have : l = [] := List.length_eq_zero_iff.1 (by omega)
    subst this
    exact .inl ⟨8, rfl, .inl rfl⟩
  | n + 1, [], hn, a, k, hl => .inl ⟨8, rfl, .inl rfl⟩
  | n + 1, [x], hn, a, k, hl => .inl ⟨8, rfl, .inl rfl⟩
  | n + 1, x :: y :: r, hn, a, k, hl => by
    have hx := hl x (by simp)
    by_cases c : x = 0
    · subst c
      by_cases d1 : y = 1
      · subst d1
        rw [txt_end]
        refine .inr ⟨[], 2, by simp, by omega, by simp, by simp [esc], (fun x hx => by cases hx), by simp⟩
      · by_cases d2 : y = 255
        · subst d2
          rw [txt_zero]
          rcases txt_says n r (by simp at hn; omega) (a ++ [0]) (k + 2) (fun z hz => hl z (by simp [hz])) with ⟨e, h1, h2⟩ | ⟨t, m, h1, h2, h3, h4, h5, h6⟩
          · exact .inl ⟨e, h1, h2⟩
          · refine .inr ⟨0 :: t, m + 2, ?_, by omega, by simp; omega, ?_, ?_, by simp; omega⟩
            · rw [h1]
              simp
              omega
            · rw [List.take_succ_cons, List.take_succ_cons, h4]
              simp [esc]
            · intro z hz
              rcases List.mem_cons.1 hz with h | h
              · omega
              · exact h5 z h
        · rw [txt_bad _ _ _ _ d1 d2]
          exact .inl ⟨1, rfl, .inr rfl⟩
    · rw [txt_plain _ _ _ _ c]
      rcases txt_says n (y :: r) (by simp at hn ⊢; omega) (a ++ [x]) (k + 1) (fun z hz => hl z (by simp at hz ⊢; exact .inr hz)) with ⟨e, h1, h2⟩ | ⟨t, m, h1, h2, h3, h4, h5, h6⟩
      · exact .inl ⟨e, h1, h2⟩
      · refine .inr ⟨x :: t, m + 1, ?_, by omega, by simp at h3 ⊢; omega, ?_, ?_, by simp; omega⟩
        · rw [h1]
          simp
          omega
        · rw [List.take_succ_cons, h4]
          simp [esc, c]
        · intro z hz
          rcases List.mem_cons.1 hz with h | h
          · omega
          · exact h5 z h

theorem txt_back : ∀ (t : List Int) (a : List Int) (k : Nat) (r : List Int), txt a k (esc t ++ 0 :: 1 :: r) = (a ++ t, k + (esc t).length + 2, 0)
  | [], a, k, r => by simp [esc, txt_end]
  | x :: t, a, k, r => by
    by_cases c : x = 0
    · subst c
      have e : esc (0 :: t) = 0 :: 255 :: esc t := by simp [esc]
      rw [e, List.cons_append, List.cons_append, txt_zero, txt_back t]
      simp
      omega
    · have e : esc (x :: t) = x :: esc t := by simp [esc, c]
      rw [e, List.cons_append, txt_plain _ _ _ _ c, txt_back t]
      simp
      omega

theorem eight (l : List Int) (h : l.length = 8) : ∃ a b c d e f g i, l = [a, b, c, d, e, f, g, i] := by
  match l, h with
  | [a, b, c, d, e, f, g, i], _ => exact ⟨a, b, c, d, e, f, g, i, rfl⟩

theorem num8_acc (l : List Int) (hl : ∀ x ∈ l, 0 ≤ x ∧ x ≤ 255) (h : l.length = 8) : num8 (acc 0 l) = l := by
  obtain ⟨a, b, c, d, e, f, g, i, rfl⟩ := eight l h
  have ha := hl a (by simp)
  have hb := hl b (by simp)
  have hc := hl c (by simp)
  have hd := hl d (by simp)
  have he := hl e (by simp)
  have hf := hl f (by simp)
  have hg := hl g (by simp)
  have hi := hl i (by simp)
  simp only [num8, acc, List.foldl_cons, List.foldl_nil, List.cons.injEq, and_true]
  refine ⟨?_, ?_, ?_, ?_, ?_, ?_, ?_, ?_⟩ <;> omega

theorem acc_num8 (m : Int) (h0 : 0 ≤ m) (h1 : m ≤ 18446744073709551615) : acc 0 (num8 m) = m := by
  simp only [num8, acc, List.foldl_cons, List.foldl_nil]
  omega

/-- The part at the beginning: an error, or a part whose octets these are. -/
theorem first_says (x : Int) (r : List Int) (hl : ∀ y ∈ x :: r, 0 ≤ y ∧ y ≤ 255) :
    (∃ e, firstOf (x :: r) = (zeroP, 0, e) ∧ (e = 8 ∨ e = 1 ∨ e = 22)) ∨
    ∃ p k, firstOf (x :: r) = (p, k, 0) ∧ 1 ≤ k ∧ k ≤ r.length + 1 ∧ encP p = (x :: r).take k ∧ okP p = true ∧ ((-9223372036854775808 ≤ p.2.1 ∧ p.2.1 ≤ 9223372036854775807) ∧ (∀ y ∈ p.2.2, 0 ≤ y ∧ y ≤ 255) ∧ p.2.2.length ≤ r.length) := by
  have hr : ∀ y ∈ r, 0 ≤ y ∧ y ≤ 255 := fun y hy => hl y (by simp [hy])
  by_cases c1 : x = 17
  · subst c1
    by_cases c : r.length < 8
    · exact .inl ⟨8, by simp [firstOf, c], .inl rfl⟩
    · have h8 : (r.take 8).length = 8 := by rw [List.length_take]; omega
      have ho : ∀ y ∈ r.take 8, 0 ≤ y ∧ y ≤ 255 := fun y hy => hr y (List.mem_of_mem_take hy)
      have hb := acc_eight (r.take 8) ho h8
      refine .inr ⟨(true, acc 0 (r.take 8) - 9223372036854775808, []), 9, by simp [firstOf, c], by omega, by omega, ?_, rfl, ⟨by simp only; omega, (fun y hy => by cases hy), by simp⟩⟩
      have e : encP (true, acc 0 (r.take 8) - 9223372036854775808, []) = 17 :: num8 (acc 0 (r.take 8) - 9223372036854775808 + 9223372036854775808) := rfl
      rw [e, Int.sub_add_cancel, num8_acc _ ho h8]
      rfl
  · by_cases c2 : x = 34
    · subst c2
      have e : firstOf (34 :: r) = ((false, 0, (txt [] 1 r).1), (txt [] 1 r).2.1, (txt [] 1 r).2.2) := by simp [firstOf]
      rcases txt_says r.length r (Nat.le_refl _) [] 1 hr with ⟨er, h1, h2⟩ | ⟨t, m, h1, h2, h3, h4, h5, h6⟩
      · refine .inl ⟨er, by rw [e, h1]; rfl, ?_⟩
        rcases h2 with h | h
        · exact .inl h
        · exact .inr (.inl h)
      · refine .inr ⟨(false, 0, t), 1 + m, by rw [e, h1]; rfl, by omega, by omega, ?_, rfl, ⟨by simp only; omega, h5, by simp only; omega⟩⟩
        rw [Nat.add_comm 1 m, List.take_succ_cons, h4]
        rfl
    · exact .inl ⟨22, by simp [firstOf, c1, c2], .inr (.inr rfl)⟩

theorem first_back (p : Bool × Int × List Int) (hp : Pwf p) (hk : okP p = true) (r : List Int) : firstOf (encP p ++ r) = (p, (encP p).length, 0) := by
  obtain ⟨b, n, t⟩ := p
  obtain ⟨⟨n0, n1⟩, ht, _⟩ := hp
  simp only at n0 n1 ht
  cases b
  · obtain rfl : n = 0 := by simpa [okP] using hk
    have e : encP (false, 0, t) = 34 :: (esc t ++ [0, 1]) := rfl
    have e2 : firstOf (34 :: ((esc t ++ [0, 1]) ++ r)) = ((false, 0, (txt [] 1 ((esc t ++ [0, 1]) ++ r)).1), (txt [] 1 ((esc t ++ [0, 1]) ++ r)).2.1, (txt [] 1 ((esc t ++ [0, 1]) ++ r)).2.2) := by simp [firstOf]
    have e3 : (esc t ++ [0, 1]) ++ r = esc t ++ 0 :: 1 :: r := by simp
    rw [e, List.cons_append, e2, e3, txt_back]
    simp
    omega
  · obtain rfl : t = [] := by simpa [okP] using hk
    have e : encP (true, n, []) = 17 :: num8 (n + 9223372036854775808) := rfl
    have hl : (num8 (n + 9223372036854775808)).length = 8 := rfl
    have e2 : firstOf (17 :: (num8 (n + 9223372036854775808) ++ r)) = ((true, acc 0 ((num8 (n + 9223372036854775808) ++ r).take 8) - 9223372036854775808, []), 9, 0) := by
      simp [firstOf]
      omega
    rw [e, List.cons_append, e2]
    have e3 : (num8 (n + 9223372036854775808) ++ r).take 8 = num8 (n + 9223372036854775808) := by
      rw [List.take_append_of_le_length (by omega), List.take_of_length_le (by omega)]
    rw [e3, acc_num8 _ (by omega) (by omega), List.length_cons, hl]
    simp

/-- Decode, from the octets that are left and the parts that were told: at most f parts more. -/
def decAux : Nat → List Int → List (Bool × Int × List Int) → List (Bool × Int × List Int) × Int
  | 0, _, a => (a, 0)
  | f + 1, s, a => if s = [] then (a, 0) else if (firstOf s).2.2 = 0 then decAux f (s.drop (firstOf s).2.1) (a ++ [(firstOf s).1]) else ([], (firstOf s).2.2)

def decAll (s : List Int) : List (Bool × Int × List Int) × Int := decAux s.length s []

def decodeOf (s : List Int) : List (Bool × Int × List Int) × Int := if (decAll s).2 = 0 then (if 8 < (decAll s).1.length then ([], 3) else ((decAll s).1, 0)) else ([], (decAll s).2)

theorem dec_fuel : ∀ (n : Nat) (s : List Int) (a : List (Bool × Int × List Int)) (f : Nat), (∀ x ∈ s, 0 ≤ x ∧ x ≤ 255) → s.length ≤ n → s.length ≤ f → decAux f s a = decAux s.length s a
  | 0, s, a, f, hx, hn, hf => by
    have : s = [] := List.length_eq_zero_iff.1 (by omega)
    subst this
    cases f <;> simp [decAux]
  | n + 1, s, a, f, hx, hn, hf => by
    cases s with
    | nil => cases f <;> simp [decAux]
    | cons y r =>
      simp only [List.length_cons] at hn hf
      obtain ⟨g, rfl⟩ : ∃ g, f = g + 1 := ⟨f - 1, by omega⟩
      rw [List.length_cons]
      unfold decAux
      rcases first_says y r hx with ⟨e, h1, h2⟩ | ⟨p, k, h1, h2, h3, _⟩
      · have he : ¬ e = 0 := by omega
        rw [h1]
        simp [he]
      · rw [h1]
        simp only [List.cons_ne_nil, if_false, if_true]
        have hd : ((y :: r).drop k).length ≤ r.length := by rw [List.length_drop, List.length_cons]; omega
        have ho : ∀ x ∈ (y :: r).drop k, 0 ≤ x ∧ x ≤ 255 := fun x h => hx x (List.mem_of_mem_drop h)
        rw [dec_fuel n _ _ g ho (by omega) (by omega), dec_fuel n _ _ r.length ho (by omega) (by omega)]

theorem dec_good {y : Int} {r : List Int} {a : List (Bool × Int × List Int)} {p : Bool × Int × List Int} {k : Nat} (hx : ∀ x ∈ y :: r, 0 ≤ x ∧ x ≤ 255) (h : firstOf (y :: r) = (p, k, 0)) (k1 : 1 ≤ k) :
    decAux ((y :: r).drop k).length ((y :: r).drop k) (a ++ [p]) = decAux (y :: r).length (y :: r) a := by
  have st : decAux (r.length + 1) (y :: r) a = decAux r.length ((y :: r).drop k) (a ++ [p]) := by
    conv => lhs; unfold decAux
    rw [h]
    simp
  rw [List.length_cons, st]
  have hd : ((y :: r).drop k).length ≤ r.length := by rw [List.length_drop, List.length_cons]; omega
  rw [dec_fuel r.length _ _ r.length (fun x h => hx x (List.mem_of_mem_drop h)) hd hd]

theorem dec_bad {y : Int} {r : List Int} {a : List (Bool × Int × List Int)} {p : Bool × Int × List Int} {k : Nat} {e : Int} (h : firstOf (y :: r) = (p, k, e)) (he : ¬ e = 0) : decAux (y :: r).length (y :: r) a = ([], e) := by
  rw [List.length_cons]
  unfold decAux
  rw [h]
  simp [he]

theorem dec_nil (a : List (Bool × Int × List Int)) : decAux ([] : List Int).length [] a = (a, 0) := by simp [decAux]
end Go.Proofs.Ytjnbjooagdgfpaa
