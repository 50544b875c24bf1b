/- frame.Get over any octets: the record at their beginning, how many octets it has, and the error, as the plain function 'fget' says. -/
import Derived.Test.YtgphkddcfcmaiabFBlk
import Derived.Test.YtgphkddcfcmaiabVAgain
namespace Go.Proofs.Ytgphkddcfcmaiab
open Go.RowKit SumPlain
set_option linter.unusedVariables false

/-- What Get tells of octets: kind, data, how many octets, the error. -/
def fget (b : List Int) : Int × List Int × Int × Int :=
  if (getOf b).2.2 ≠ 0 then (0, [], 0, (getOf b).2.2) else
  if 65536 < (getOf b).1 then (0, [], 0, 5) else
  if (b.length : Int) < (getOf b).2.1 + 1 + (getOf b).1 + 4 then (0, [], 0, 8) else
  if (bareOf (b.take ((getOf b).2.1 + 1 + (getOf b).1 + 4).toNat)).2 ≠ 0 then (0, [], 0, (bareOf (b.take ((getOf b).2.1 + 1 + (getOf b).1 + 4).toNat)).2) else
  ((bareOf (b.take ((getOf b).2.1 + 1 + (getOf b).1 + 4).toNat)).1.getD (getOf b).2.1.toNat 0, (bareOf (b.take ((getOf b).2.1 + 1 + (getOf b).1 + 4).toNat)).1.drop ((getOf b).2.1.toNat + 1), (getOf b).2.1 + 1 + (getOf b).1 + 4, 0)

theorem getRet_inj {l : List Int} {n j e : Int} (h : getRet l = .tuple #[.int .u64 n, .int .i64 j, .int .i64 e]) : getOf l = (n, j, e) := by
  unfold getRet at h
  simp at h
  obtain ⟨h1, h2, h3⟩ := h
  ext <;> simp [h1, h2, h3]

theorem fget_err {b : List Int} {n j e : Int} (h : getOf b = (n, j, e)) (he : e ≠ 0) : fget b = (0, [], 0, e) := by
  unfold fget; rw [h]; simp [he]
theorem fget_long {b : List Int} {n j : Int} (h : getOf b = (n, j, 0)) (hn : 65536 < n) : fget b = (0, [], 0, 5) := by
  unfold fget; rw [h]; simp [hn]
theorem fget_short {b : List Int} {n j : Int} (h : getOf b = (n, j, 0)) (hn : ¬ 65536 < n) (hl : (b.length : Int) < j + 1 + n + 4) : fget b = (0, [], 0, 8) := by
  unfold fget; rw [h]; simp [hn, hl]
theorem fget_bad {b : List Int} {n j : Int} (h : getOf b = (n, j, 0)) (hn : ¬ 65536 < n) (hl : ¬ (b.length : Int) < j + 1 + n + 4) {m : Nat} (hm : (j + 1 + n + 4).toNat = m) {x : List Int} {f : Int} (hb : bareOf (b.take m) = (x, f)) (hf : f ≠ 0) : fget b = (0, [], 0, f) := by
  subst hm
  unfold fget; rw [h]; simp only [hn, hl, hb, if_false]; simp [hf]
theorem fget_good {b : List Int} {n : Int} {j : Nat} (h : getOf b = (n, (j : Int), 0)) (hn : ¬ 65536 < n) (hl : ¬ (b.length : Int) < j + 1 + n + 4) {m : Nat} (hm : ((j : Int) + 1 + n + 4).toNat = m) {x : List Int} (hb : bareOf (b.take m) = (x, 0)) : fget b = (x.getD j 0, x.drop (j + 1), (j : Int) + 1 + n + 4, 0) := by
  subst hm
  unfold fget; rw [h]; simp only [hn, hl, hb, if_false]; simp

theorem own_form {w : World} {base : Nat} {v : Value} {l : List Int} (h : OwnB w base v l) (hl : l ≠ []) :
    ∃ g cap, v = .slice (some ⟨g, 0, none⟩) l.length cap ∧ base ≤ g ∧ g < w.heap.size ∧ l.length ≤ cap ∧ cap ≤ maxLen := by
  have hlt := h.lt
  obtain ⟨_, h2⟩ := h
  rcases h2 with ⟨rfl, h0⟩ | ⟨g, cap, cur, rfl, hg, hh, hn, hm, hs, ht⟩
  · exact absurd (List.length_eq_zero_iff.1 h0) hl
  · exact ⟨g, cap, rfl, hg, (hlt g rfl).2, hn, hm⟩

theorem Octs.cut {w : World} {b off cap n : Nat} {l : List Int} (h : Octs w (.slice (some ⟨b, off, none⟩) n cap) l) (hn : n = l.length) (j : Nat) (hj : j ≤ l.length) : Octs w (.slice (some ⟨b, off, none⟩) j cap) (l.take j) := by
  have := h.front (p := l.take j) (q := l.drop j) (List.take_append_drop j l).symm hn
  rw [List.length_take, Nat.min_eq_left hj] at this
  exact this

theorem Octs.back {w : World} {b off cap n : Nat} {l : List Int} (h : Octs w (.slice (some ⟨b, off, none⟩) n cap) l) (hn : n = l.length) (j : Nat) (hj : j ≤ l.length) (hc : l.length ≤ cap) : Octs w (.slice (some ⟨b, off + j, none⟩) (n - j) (cap - j)) (l.drop j) := by
  obtain ⟨hx, h0⟩ := h
  refine ⟨fun x hx' => hx x (List.mem_of_mem_drop hx'), ?_⟩
  have hlen : (l.drop j).length = n - j := by rw [List.length_drop, hn]
  by_cases he : l.drop j = []
  · have : n - j = 0 := by rw [← hlen, he]; rfl
    rw [he, this]
    exact .inl ⟨rfl, _, _, rfl, fun h => by cases h⟩
  · rcases h0 with ⟨e, _⟩ | ⟨_, b', off', cap', hv, hc', hm, hcell⟩
    · subst e; simp at he
    · simp only [Value.slice.injEq, Option.some.injEq, Addr.mk.injEq] at hv
      obtain ⟨⟨rfl, rfl, _⟩, _, rfl⟩ := hv
      refine .inr ⟨he, b, off + j, cap - j, by rw [hlen], by rw [List.length_drop]; omega, by omega, fun i x hi => ?_⟩
      rw [List.getElem?_drop] at hi
      have := hcell (j + i) x hi
      rw [Nat.add_assoc]
      exact this

theorem bareOf_good {l x : List Int} (h : bareOf l = (x, 0)) : x.length + 4 = l.length ∧ x = l.take x.length := by
  unfold bareOf at h
  split at h
  · simp at h
  · split at h
    · simp at h
      subst h
      rw [List.length_take]
      refine ⟨by omega, ?_⟩
      rw [Nat.min_eq_left (by omega)]
    · simp at h

end Go.Proofs.Ytgphkddcfcmaiab
