/- The law's helper same returns whether two slices of parts hold the same parts. -/
import Derived.Test.YtjnbjooagdgfpaaParts
namespace Go.Proofs.Ytjnbjooagdgfpaa
open Go.RowKit
set_option linter.unusedVariables false

set_option maxHeartbeats 1000000 in
/-- Slices that hold one list. -/
theorem same_one (l : List (Bool × Int × List Int)) (v1 v2 : Value) (w : World) (h1 : Parts w v1 l) (h2 : Parts w v2 l) :
    Calls Try.prog 17 #[v1, v2] w fun e w' => e = .returned (.bool true) ∧ ∃ d, w' = w.drewN d := by
  have H1 : Hid (Parts w v1 l) := h1
  have H2 : Hid (Parts w v2 l) := h2
  obtain ⟨_, a1, c1, rfl, hc1, hm1, h3⟩ := h1
  obtain ⟨_, a2, c2, rfl, hc2, hm2, h4⟩ := h2
  clear h3 h4
  unfold maxLen at hm1 hm2
  go_enter Try.func17, Try.ntmps17
  go_wp2
  go_loopw [5] (fun i wr => ∃ k : Nat, k ≤ l.length ∧ i = .int .i64 k ∧ ∃ d, wr = w.drewN d) (fun i _ => l.length - (intOf i).toNat)
  case atStart => exact ⟨0, Nat.zero_le _, rfl, 0, rfl⟩
  case round =>
    obtain ⟨k, hk, rfl, d, rfl⟩ := hrel
    by_cases hlt : k < l.length
    · obtain ⟨b1, o1, c1', e, _, _, x0, x1, x2⟩ := H1.out.at k hlt
      simp at e
      obtain ⟨rfl, rfl⟩ := e
      obtain ⟨b2, o2, c2', e, _, _, y0, y1, y2⟩ := H2.out.at k hlt
      simp at e
      obtain ⟨rfl, rfl⟩ := e
      have hlt' : (k : Int) < (l.length : Int) := by omega
      generalize l.getD k (false, 0, []) = p at *
      obtain ⟨pb, pn, pt⟩ := p
      simp only at x0 x1 x2 y0 y1 y2
      generalize strOfNums pt = s at *
      cases pb
      · go_wp2_with fail
        go_quiet (fail)
        go_wp2
        exact ⟨⟨k + 1, by omega, by go_num, _, rfl⟩, by simp [intOf]; omega⟩
      · go_wp2_with fail
        go_quiet (fail)
        go_wp2
        exact ⟨⟨k + 1, by omega, by go_num, _, rfl⟩, by simp [intOf]; omega⟩
    · have hlt' : ¬ (k : Int) < (l.length : Int) := by omega
      go_wp2
      go_ret
      exact ⟨rfl, d, rfl⟩
end Go.Proofs.Ytjnbjooagdgfpaa
