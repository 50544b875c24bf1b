/- A slice of numbers of type uint64, read as a list; numbers put one behind the other, and told by All, all of them. -/
import Derived.Test.YtamamhgmijmkjaaAllOf
namespace Go.Proofs.Ytamamhgmijmkjaa
open Go.RowKit
set_option linter.unusedVariables false

/-- The slice at a, of l.length numbers, holds the numbers l in w. -/
def Nums (w : World) (a : Option Addr) (l : List Int) : Prop :=
  (∀ x ∈ l, 0 ≤ x ∧ x ≤ 18446744073709551615) ∧
  (l ≠ [] → ∃ b off, a = some ⟨b, off, none⟩ ∧ ∀ j x, l[j]? = some x → w.cell? ⟨b, off + j, none⟩ = some (.int .u64 x))

theorem Nums.up {w w' : World} {a : Option Addr} {l : List Int} (h : Nums w a l) (hb : Below w.heap.size w w') : Nums w' a l := by
  refine ⟨h.1, fun hl => ?_⟩
  obtain ⟨b, off, e, hc⟩ := h.2 hl
  exact ⟨b, off, e, fun j x hj => (hb.cell (p := ⟨b, off + j, none⟩) (World.block_lt_of_cell? w ⟨b, off + j, none⟩ (hc j x hj))).trans (hc j x hj)⟩

theorem Nums.own {w : World} {base : Nat} {v : Value} {l : List Int} (h : w.ownsRow base 22 1 v l.length (l.map (Value.int .u64))) (hx : ∀ x ∈ l, 0 ≤ x ∧ x ≤ 18446744073709551615) :
    ∃ a cap, v = .slice a l.length cap ∧ l.length ≤ cap ∧ cap ≤ maxLen ∧ Nums w a l := by
  obtain ⟨_, h2⟩ := h
  rcases h2 with ⟨rfl, h0⟩ | ⟨g, cap, cur, rfl, hg, hh, hn, hm, hs, ht⟩
  · have e : l = [] := List.length_eq_zero_iff.1 h0
    subst e
    exact ⟨none, 0, rfl, by simp, by simp, ⟨hx, fun h => absurd rfl h⟩⟩
  · refine ⟨some ⟨g, 0, none⟩, cap, rfl, hn, hm, ⟨hx, fun hl => ⟨g, 0, rfl, fun j x hj => ?_⟩⟩⟩
    have hj' : (l.map (Value.int .u64))[j]? = some (.int .u64 x) := by simp [hj]
    rw [← ht, List.getElem?_take] at hj'
    split at hj'
    · simp only [World.cell?, hh, Nat.zero_add]
      simpa using hj'
    · cases hj'

theorem own_up {w w' : World} {base : Nat} {e : TypeId} {v : Value} {n : Nat} {xs : List Value} (h : w.ownsRow base e 1 v n xs) (hb : Below w.heap.size w w') : w'.ownsRow base e 1 v n xs := by
  have hlt := h.lt
  obtain ⟨h1, h2⟩ := h
  refine ⟨h1, ?_⟩
  rcases h2 with h0 | ⟨g, cap, cur, rfl, hg, hh, r⟩
  · exact .inl h0
  · exact .inr ⟨g, cap, cur, rfl, hg, (hb.block g (hlt g rfl).2).trans hh, r⟩

/-- The cell of a place in a slice of numbers. -/
theorem Nums.at {w : World} {a : Option Addr} {l : List Int} (h : Nums w a l) (k : Nat) (hk : k < l.length) : ∃ b off, a = some ⟨b, off, none⟩ ∧ w.cell? ⟨b, off + k, none⟩ = some (.int .u64 (l.getD k 0)) := by
  have hl : l ≠ [] := by intro e; rw [e] at hk; simp at hk
  obtain ⟨b, off, e, hc⟩ := h.2 hl
  exact ⟨b, off, e, hc k _ (by simp [List.getD, hk])⟩

theorem allAux_bd : ∀ (f : Nat) (l a : List Int), (∀ x ∈ l, 0 ≤ x ∧ x ≤ 255) → (∀ x ∈ a, 0 ≤ x ∧ x ≤ 18446744073709551615) → ∀ x ∈ (allAux f l a).1, 0 ≤ x ∧ x ≤ 18446744073709551615
  | 0, l, a, _, ha => ha
  | f + 1, l, a, hx, ha => by
    unfold allAux
    by_cases h0 : l = []
    · rw [if_pos h0]; exact ha
    · rw [if_neg h0]
      by_cases he : (getOf l).2.2 = 0
      · rw [if_pos he]
        refine allAux_bd f _ _ (fun x h => hx x (List.mem_of_mem_drop h)) ?_
        intro x h
        rcases List.mem_append.1 h with h | h
        · exact ha x h
        · rw [List.mem_singleton] at h
          subst h
          rcases get_says l hx with h | h | ⟨n, j, h, n0, n1, _⟩
          · rw [getOf_of_ret h] at he; simp at he
          · rw [getOf_of_ret h] at he; simp at he
          · rw [getOf_of_ret h]; exact ⟨n0, n1⟩
      · rw [if_neg he]
        intro x h
        cases h

theorem allOf_bd (l : List Int) (hx : ∀ x ∈ l, 0 ≤ x ∧ x ≤ 255) : ∀ x ∈ (allOf l).1, 0 ≤ x ∧ x ≤ 18446744073709551615 :=
  allAux_bd _ l [] hx (fun x h => by cases h)

/-- Numbers put one behind the other. -/
def cat (ls : List Int) : List Int := ls.flatMap octets

theorem cat_octet (ls : List Int) (h : ∀ x ∈ ls, 0 ≤ x ∧ x ≤ 18446744073709551615) : ∀ x ∈ cat ls, 0 ≤ x ∧ x ≤ 255 := by
  intro x hx
  obtain ⟨n, hn, hx⟩ := List.mem_flatMap.1 hx
  exact (octets_form n (h n hn).1 (h n hn).2).octet x hx

theorem cat_snoc (ls : List Int) (n : Int) : cat (ls ++ [n]) = cat ls ++ octets n := by
  simp [cat]

theorem cat_len : ∀ (ls : List Int), (∀ x ∈ ls, 0 ≤ x ∧ x ≤ 18446744073709551615) → (cat ls).length ≤ 9 * ls.length
  | [], _ => by simp [cat]
  | n :: ls, h => by
    have e : cat (n :: ls) = octets n ++ cat ls := by simp [cat]
    rw [e, List.length_append, List.length_cons]
    have a := (octets_len n (h n (by simp)).1 (h n (by simp)).2).2
    have b := cat_len ls (fun x hx => h x (by simp [hx]))
    omega

theorem all_cat : ∀ (ls a : List Int), (∀ x ∈ ls, 0 ≤ x ∧ x ≤ 18446744073709551615) → allAux (cat ls).length (cat ls) a = (a ++ ls, 0)
  | [], a, _ => by simp [cat, allAux]
  | n :: ls, a, h => by
    have hn := h n (by simp)
    have F := octets_form n hn.1 hn.2
    have e : cat (n :: ls) = octets n ++ cat ls := by simp [cat]
    have hr : getRet (octets n ++ cat ls) = .tuple #[.int .u64 n, .int .i64 ((octets n).length : Nat), .int .i64 0] := by rw [getOf_back n hn.1 hn.2, F.size]
    have l1 := (octets_len n hn.1 hn.2).1
    have hne : octets n ++ cat ls ≠ [] := by
      intro e0
      have := congrArg List.length e0
      simp only [List.length_append, List.length_nil] at this
      omega
    have hx : ∀ x ∈ octets n ++ cat ls, 0 ≤ x ∧ x ≤ 255 := by rw [← e]; exact cat_octet _ h
    rw [e, ← all_good hx hne hr l1, List.drop_left, all_cat ls (a ++ [n]) (fun x hx => h x (by simp [hx]))]
    simp

theorem allOf_cat (ls : List Int) (h : ∀ x ∈ ls, 0 ≤ x ∧ x ≤ 18446744073709551615) : allOf (cat ls) = (ls, 0) := by
  unfold allOf
  rw [all_cat ls [] h]
  simp

theorem take_snoc (ls : List Int) (k : Nat) (h : k < ls.length) : ls.take (k + 1) = ls.take k ++ [ls.getD k 0] := by
  rw [List.take_succ_eq_append_getElem h]
  simp [List.getD, h]
end Go.Proofs.Ytamamhgmijmkjaa
