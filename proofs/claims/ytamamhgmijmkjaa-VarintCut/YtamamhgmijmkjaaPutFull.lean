/- varint.Put once more, its slice written out; the octets of a slice that is cut; an index that is turned into its bounds. -/
import Derived.Test.YtamamhgmijmkjaaMath
import Derived.OpenShut
namespace Go.Proofs.Ytamamhgmijmkjaa
open Go.RowKit
set_option linter.unusedVariables false

theorem own_form {w : World} {base : Nat} {v : Value} {l : List Int} (h : w.ownsRow base 5 1 v l.length (l.map (Value.int .u8))) (hl : l ≠ []) :
    ∃ g cap, v = .slice (some ⟨g, 0, none⟩) l.length cap ∧ base ≤ g ∧ g < w.heap.size ∧ l.length ≤ cap ∧ cap ≤ maxLen := by
  have hlt := h.lt
  obtain ⟨_, h2⟩ := h
  rcases h2 with ⟨rfl, h0⟩ | ⟨g, cap, cur, rfl, hg, hh, hn, hm, hs, ht⟩
  · exact absurd (List.length_eq_zero_iff.1 h0) hl
  · exact ⟨g, cap, rfl, hg, (hlt g rfl).2, hn, hm⟩

theorem Octs.cut {w : World} {b off cap : Nat} {l : List Int} (h : Octs w (.slice (some ⟨b, off, none⟩) l.length cap) l) (hl : l ≠ []) (j : Nat) (hj : j ≤ l.length) : Octs w (.slice (some ⟨b, off, none⟩) j cap) (l.take j) := by
  obtain ⟨hx, h0⟩ := h
  refine ⟨fun x hx' => hx x (List.mem_of_mem_take hx'), ?_⟩
  have hlen : (l.take j).length = j := by rw [List.length_take]; omega
  rcases h0 with ⟨e, _⟩ | ⟨_, b', off', cap', hv, hc, hm, hcell⟩
  · exact absurd e hl
  · simp only [Value.slice.injEq, Option.some.injEq, Addr.mk.injEq] at hv
    obtain ⟨⟨rfl, rfl, _⟩, _, rfl⟩ := hv
    by_cases h0 : l.take j = []
    · rw [h0] at hlen ⊢
      simp at hlen
      subst hlen
      exact .inl ⟨rfl, _, _, rfl, fun h => by cases h⟩
    · refine .inr ⟨h0, b, off, cap, by rw [hlen], by omega, hm, fun i x hi => hcell i x ?_⟩
      rw [List.getElem?_take] at hi
      split at hi
      · exact hi
      · cases hi

theorem put_full (n : Int) (w : World) (h0 : 0 ≤ n) (h1 : n ≤ 18446744073709551615) :
    Calls Try.prog 15 #[.int .u64 n] w fun e w' => ∃ g cap, e = .returned (.slice (some ⟨g, 0, none⟩) (octets n).length cap) ∧ w.heap.size ≤ g ∧ g < w'.heap.size ∧ (octets n).length ≤ cap ∧ cap ≤ maxLen ∧
      Octs w' (.slice (some ⟨g, 0, none⟩) (octets n).length cap) (octets n) ∧ Below w.heap.size w w' := by
  refine (put_any n w h0 h1).mono ?_
  rintro e w' ⟨v, rfl, ho, hb⟩
  have F := octets_form n h0 h1
  have hne : octets n ≠ [] := by
    obtain ⟨f, r, e, _⟩ := F.first
    rw [e]; simp
  obtain ⟨g, cap, rfl, a, b, c, d⟩ := own_form ho hne
  exact ⟨g, cap, rfl, a, b, c, d, Octs.own ho F.octet, hb⟩

theorem octets_len (n : Int) (h0 : 0 ≤ n) (h1 : n ≤ 18446744073709551615) : 1 ≤ (octets n).length ∧ (octets n).length ≤ 9 := by
  have := (octets_form n h0 h1).size
  have := size_bd n
  omega


theorem turn_in (a : Int) (k : Nat) (h1 : 1 ≤ k) (h9 : k ≤ 9) : ∃ j : Nat, (wrap64 (a.tmod (k : Int) + (k : Int))).tmod (k : Int) = (j : Int) ∧ j < k := by
  have b1 := Int.tmod_lt_of_pos a (show (0 : Int) < (k : Int) by omega)
  have b2 : -(k : Int) < a.tmod (k : Int) := by
    have := Int.lt_tmod_of_pos a (show (0 : Int) < (k : Int) by omega)
    omega
  generalize a.tmod (k : Int) = x at *
  have e : wrap64 (x + (k : Int)) = x + (k : Int) := by unfold wrap64; omega
  rw [e, Int.tmod_eq_emod_of_nonneg (by omega)]
  have c1 := Int.emod_nonneg (x + (k : Int)) (show (k : Int) ≠ 0 by omega)
  have c2 := Int.emod_lt_of_pos (x + (k : Int)) (show (0 : Int) < (k : Int) by omega)
  exact ⟨((x + (k : Int)) % (k : Int)).toNat, by omega, by omega⟩

end Go.Proofs.Ytamamhgmijmkjaa
