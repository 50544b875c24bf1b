/- Bare over any octets; Guard and Bare of the document; that the page's example is alive. -/
import Derived.Test.YtgphkddcfcmaiabSBare
import Derived.Lib.SlBytesConst
namespace Go.Proofs.Ytgphkddcfcmaiab
open Go.RowKit SumPlain
set_option linter.unusedVariables false

theorem OwnB.mono {w : World} {base base' : Nat} {v : Value} {l : List Int} (h : OwnB w base v l) (hb : base' ≤ base) : OwnB w base' v l := by
  obtain ⟨h1, h2⟩ := h
  refine ⟨h1, ?_⟩
  rcases h2 with h0 | ⟨g, cap, cur, rfl, hg, r⟩
  · exact .inl h0
  · exact .inr ⟨g, cap, cur, rfl, Nat.le_trans hb hg, r⟩

theorem split_four (l : List Int) (h : 4 ≤ l.length) : ∃ y0 y1 y2 y3, l = l.take (l.length - 4) ++ [y0, y1, y2, y3] ∧ l.drop (l.length - 4) = [y0, y1, y2, y3] := by
  have e : (l.drop (l.length - 4)).length = 4 := by rw [List.length_drop]; omega
  match hd : l.drop (l.length - 4) with
  | [y0, y1, y2, y3] => exact ⟨y0, y1, y2, y3, by rw [← hd, List.take_append_drop], rfl⟩
  | [] => rw [hd] at e; simp at e
  | [_] => rw [hd] at e; simp at e
  | [_, _] => rw [hd] at e; simp at e
  | [_, _, _] => rw [hd] at e; simp at e
  | _ :: _ :: _ :: _ :: _ :: _ => rw [hd] at e; simp at e

/-- Bare, said of the octets ahead and the last four. -/
theorem bareOf_long (l : List Int) (h : 4 ≤ l.length) (y : List Int) (hy : l.drop (l.length - 4) = y) :
    bareOf l = (if y = lastL (ext ones (l.take (l.length - 4))) then l.take (l.length - 4) else [], if y = lastL (ext ones (l.take (l.length - 4))) then 0 else 21) := by
  unfold bareOf
  rw [if_neg (by omega), hy]
  by_cases c : y = lastL (ext ones (l.take (l.length - 4)))
  · rw [if_pos c, if_pos c, if_pos c]
  · rw [if_neg c, if_neg c, if_neg c]

theorem bareOf_short (l : List Int) (h : ¬ 4 ≤ l.length) : bareOf l = ([], 8) := by
  unfold bareOf
  rw [if_pos (by omega)]

theorem bareOf_octet (l : List Int) (h : ∀ x ∈ l, 0 ≤ x ∧ x ≤ 255) : ∀ x ∈ (bareOf l).1, 0 ≤ x ∧ x ≤ 255 := by
  intro x hx
  by_cases c : 4 ≤ l.length
  · rw [bareOf_long l c _ rfl] at hx
    simp only at hx
    split at hx
    · exact h x (List.mem_of_mem_take hx)
    · cases hx
  · rw [bareOf_short l c] at hx
    cases hx

set_option maxHeartbeats 1000000 in
theorem refGuard_any (l : List Int) (v : Value) (w : World) (hv : Octs w v l) (hl : l.length ≤ 140737488351232) :
    Calls Try.prog 25 #[v] w fun e w' => ∃ v', e = .returned v' ∧ OwnB w' w.heap.size v' (guardOf l) ∧ Below w.heap.size w w' := by
  have HV : Hid (Octs w v l) := hv
  clear hv
  go_enter Try.func25, Try.ntmps25
  go_wp2_with fail
  refine (refSum_any l _ _ HV.out).mono ?_
  rintro e w1 ⟨rfl, rfl⟩
  go_wp2_with fail
  refine (copied_any l _ _ HV.out (by omega)).mono ?_
  rintro e w2 ⟨v2, rfl, hown2, hb2⟩
  have HOwn2 : Hid (OwnB w2 w1.heap.size v2 l) := hown2
  have hs2 := hb2.size
  have HG : Hid (guardOf l = l ++ lastL (ext ones l)) := rfl
  clear hown2
  generalize ext ones l = c at *
  have hu := u32_of c
  have H0 : Hid ((c.toNat : Int) / 16777216 = (c.toNat : Int) / 16777216 % 256) := by unfold Hid; omega
  go_wp2_with (at_builtin; refine wpList_append_lits _ rfl _ _ rfl w1.heap.size _ l rfl HOwn2.out (lastL c) 4 _ rfl rfl ?cs ?c1 ?c2 ?c3 ?_)
  try case cs => (unfold lastL; rw [← H0.out]; rfl)
  try case c1 => exact lastL_octet c
  try case c2 => (rw [lastL_len]; omega)
  try case c3 => exact hs2
  intro v3 w3 hown3 hb3
  go_wp2
  go_ret
  refine ⟨_, rfl, ?_, ?_⟩
  · rw [HG.out]; exact hown3
  · exact hb2.trans hb3

theorem own_len {w : World} {base : Nat} {v : Value} {l : List Int} (h : OwnB w base v l) : ∃ a cap, v = .slice a l.length cap ∧ l.length ≤ cap := by
  obtain ⟨_, h⟩ := h
  rcases h with ⟨rfl, h0⟩ | ⟨g, cap, cur, rfl, _, _, hn, _⟩
  · exact ⟨none, 0, by rw [h0], by omega⟩
  · exact ⟨_, cap, rfl, hn⟩

theorem sum_nine : ext ones [49, 50, 51, 52, 53, 54, 55, 56, 57] = 58124007#32 := by decide +kernel

end Go.Proofs.Ytgphkddcfcmaiab
