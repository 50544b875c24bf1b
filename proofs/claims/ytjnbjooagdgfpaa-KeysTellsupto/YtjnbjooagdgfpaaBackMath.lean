/- Parts come back from their octets, and octets that can be read are those of the parts that were read: plain lists. -/
import Derived.Test.YtjnbjooagdgfpaaDec
import Derived.Test.YtjnbjooagdgfpaaSame
import Derived.Test.YtjnbjooagdgfpaaAlive
namespace Go.Proofs.Ytjnbjooagdgfpaa
open Go.RowKit
set_option linter.unusedVariables false

theorem encL_cons (p : Bool × Int × List Int) (l : List (Bool × Int × List Int)) : encL (p :: l) = encP p ++ encL l := by simp [encL]

theorem encP_small (p : Bool × Int × List Int) (B : Nat) (h : p.2.2.length ≤ B) : (encP p).length ≤ 2 * B + 9 := by
  unfold encP
  split
  · simp [num8]
  · have := esc_len p.2.2
    simp
    omega

theorem encL_small (B : Nat) : ∀ (l : List (Bool × Int × List Int)), (∀ p ∈ l, p.2.2.length ≤ B) → (encL l).length ≤ (2 * B + 9) * l.length
  | [], _ => by simp [encL]
  | p :: l, h => by
    have a := encP_small p B (h p (by simp))
    have b := encL_small B l (fun q hq => h q (by simp [hq]))
    rw [encL_cons, List.length_append, List.length_cons, Nat.mul_add, Nat.mul_one]
    omega

theorem encP_head (p : Bool × Int × List Int) : ∃ y r, encP p = y :: r := by
  unfold encP
  split
  · exact ⟨_, _, rfl⟩
  · exact ⟨_, _, rfl⟩

/-- Parts come back from their octets. -/
theorem dec_enc : ∀ (l a : List (Bool × Int × List Int)), (∀ p ∈ l, Pwf p ∧ okP p = true) → decAux (encL l).length (encL l) a = (a ++ l, 0)
  | [], a, _ => by simp [encL, decAux]
  | p :: l, a, h => by
    obtain ⟨hp, hk⟩ := h p (by simp)
    have hb := first_back p hp hk (encL l)
    have ho : ∀ x ∈ encL (p :: l), 0 ≤ x ∧ x ≤ 255 := encL_octet (p :: l) (fun q hq => (h q hq).1)
    have hd : (encP p ++ encL l).drop (encP p).length = encL l := List.drop_left
    obtain ⟨y, r, e⟩ := encP_head p
    have ih := dec_enc l (a ++ [p]) (fun q hq => h q (by simp [hq]))
    rw [encL_cons] at ho ⊢
    have e2 : encP p ++ encL l = y :: (r ++ encL l) := by rw [e]; rfl
    have e3 : (encP p).length = r.length + 1 := by rw [e]; rfl
    rw [e2] at ho hb hd ⊢
    rw [← dec_good ho hb (by omega), hd, ih]
    simp

/-- What is read is built again of what was read. -/
theorem enc_dec : ∀ (n : Nat) (rest : List Int) (a b : List (Bool × Int × List Int)), (∀ x ∈ rest, 0 ≤ x ∧ x ≤ 255) → rest.length ≤ n → decAux n rest a = (b, 0) → ∃ c, b = a ++ c ∧ encL c = rest ∧ ∀ p ∈ c, okP p = true ∧ p.2.2.length ≤ n
  | 0, rest, a, b, _, hn, h => by
    have : rest = [] := List.length_eq_zero_iff.1 (by omega)
    subst this
    simp [decAux] at h
    exact ⟨[], by simp [h], rfl, fun p hp => by cases hp⟩
  | n + 1, [], a, b, _, hn, h => by
    simp [decAux] at h
    exact ⟨[], by simp [h], rfl, fun p hp => by cases hp⟩
  | n + 1, y :: r, a, b, hr, hn, h => by
    unfold decAux at h
    rw [if_neg (by simp)] at h
    rcases first_says y r hr with ⟨e, h1, h2⟩ | ⟨p, k, h1, h2, h3, h4, h5, h6, h7, h8⟩
    · have he : ¬ e = 0 := by omega
      rw [h1, if_neg he] at h
      simp at h
      omega
    · rw [h1, if_pos rfl] at h
      simp only [List.length_cons] at hn
      obtain ⟨c, e1, e2, e3⟩ := enc_dec n ((y :: r).drop k) (a ++ [p]) b (fun x hx => hr x (List.mem_of_mem_drop hx)) (by rw [List.length_drop, List.length_cons]; omega) h
      refine ⟨p :: c, by rw [e1]; simp, ?_, ?_⟩
      · rw [encL_cons, h4, e2, List.take_append_drop]
      · intro q hq
        rcases List.mem_cons.1 hq with h | h
        · subst h
          exact ⟨h5, by omega⟩
        · exact ⟨(e3 q h).1, by have := (e3 q h).2; omega⟩

theorem decode_enc (l : List (Bool × Int × List Int)) (hw : ∀ p ∈ l, Pwf p) (hc : checkOf l = 0) : decodeOf (encL l) = (l, 0) := by
  obtain ⟨h8, hk⟩ := check_eight hc
  have := dec_enc l [] (fun p hp => ⟨hw p hp, List.all_eq_true.1 hk p hp⟩)
  rw [List.nil_append] at this
  have e : decAll (encL l) = (l, 0) := this
  rw [decode_of_all e, if_neg (by omega)]

theorem decode_back (s : List Int) (hs : ∀ x ∈ s, 0 ≤ x ∧ x ≤ 255) (h : (decodeOf s).2 = 0) : checkOf (decodeOf s).1 = 0 ∧ encL (decodeOf s).1 = s ∧ ∀ p ∈ (decodeOf s).1, p.2.2.length ≤ s.length := by
  unfold decodeOf at h ⊢
  by_cases c : (decAll s).2 = 0
  · rw [if_pos c] at h ⊢
    by_cases d : 8 < (decAll s).1.length
    · rw [if_pos d] at h
      simp at h
    · rw [if_neg d]
      have e : decAux s.length s [] = ((decAll s).1, 0) := by rw [← c]; rfl
      obtain ⟨cc, e1, e2, e3⟩ := enc_dec s.length s [] _ hs (Nat.le_refl _) e
      rw [List.nil_append] at e1
      simp only
      rw [e1]
      refine ⟨?_, e2, fun p hp => (e3 p hp).2⟩
      rw [e1] at d
      unfold checkOf
      rw [if_neg d, if_pos (List.all_eq_true.2 fun p hp => (e3 p hp).1)]
  · rw [if_neg c] at h
    exact absurd h c

theorem decode_bad (s : List Int) (h : ¬ (decodeOf s).2 = 0) : (decodeOf s).1 = [] := by
  unfold decodeOf at h ⊢
  split
  · split
    · rfl
    · rename_i c d
      rw [if_pos c, if_neg d] at h
      exact absurd rfl h
  · rfl

theorem decAux_wf (s : List Int) (hs : ∀ x ∈ s, 0 ≤ x ∧ x ≤ 255) (hm : s.length ≤ 1099511627776) : ∀ (n : Nat) (rest : List Int) (a : List (Bool × Int × List Int)), (∀ x ∈ rest, 0 ≤ x ∧ x ≤ 255) → rest.length ≤ n → rest.length ≤ 1099511627776 → (∀ p ∈ a, Pwf p) → ∀ p ∈ (decAux n rest a).1, Pwf p
  | 0, rest, a, _, _, _, ha => by simpa [decAux] using ha
  | n + 1, [], a, _, _, _, ha => by simpa [decAux] using ha
  | n + 1, y :: r, a, hr, hn, hb, ha => by
    unfold decAux
    rw [if_neg (by simp)]
    rcases first_says y r hr with ⟨e, h1, h2⟩ | ⟨p, k, h1, h2, h3, h4, h5, h6, h7, h8⟩
    · have he : ¬ e = 0 := by omega
      rw [h1, if_neg he]
      intro p hp
      cases hp
    · rw [h1, if_pos rfl]
      simp only [List.length_cons] at hn hb
      refine decAux_wf s hs hm n ((y :: r).drop k) (a ++ [p]) (fun x hx => hr x (List.mem_of_mem_drop hx)) (by rw [List.length_drop, List.length_cons]; omega) (by rw [List.length_drop, List.length_cons]; omega) ?_
      intro q hq
      rcases List.mem_append.1 hq with h | h
      · exact ha q h
      · simp at h
        subst h
        exact ⟨h6, h7, by unfold maxLen; omega⟩

theorem decoded_wf (s : List Int) (hs : ∀ x ∈ s, 0 ≤ x ∧ x ≤ 255) (hm : s.length ≤ 1099511627776) : ∀ p ∈ (decodeOf s).1, Pwf p := by
  have h := decAux_wf s hs hm s.length s [] hs (Nat.le_refl _) hm (fun p hp => by cases hp)
  unfold decodeOf
  split
  · split
    · intro p hp; cases hp
    · exact h
  · intro p hp; cases hp
end Go.Proofs.Ytjnbjooagdgfpaa
