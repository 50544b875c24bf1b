/- The program's waysOf. -/
import Derived.Test.YtfnddbglopoghaaPMem
namespace Go.Proofs.Ytfnddbglopoghaa
open Go.RowKit
set_option linter.unusedVariables false
set_option linter.unusedSimpArgs false

set_option maxRecDepth 100000 in
theorem waysOf_any (s : Sk) (es : List (En × Value)) (vN vH : Value) (w : World) (h : SkE w vN vH s es) (a : Nat) (ha : a ≤ s.nodes.length) :
    Calls Try.prog 72 #[.agg #[vN, vH], .int .i64 (a : Int)] w fun e w' => e = .returned (wayV vH es a) ∧ w' = w.alloc (.cells #[vN, vH] 79) := by
  obtain ⟨⟨aN, cN, rfl⟩, ⟨aH, cH, rfl⟩⟩ := h.form
  cases a with
  | zero =>
    go_enter Try.func72, Try.ntmps72
    go_wp2_with fail
    go_ret
    exact ⟨rfl, rfl⟩
  | succ k =>
    obtain ⟨b, off, an, cn, rfl, _, hw, c0, c1, c2, c3, c4⟩ := (h.up (up_alloc w (.cells #[.slice aN s.nodes.length cN, .slice aH s.head.length cH] 79))).node k (by omega)
    have hk : (k : Int) < (s.nodes.length : Int) := by omega
    have h63 : (s.nodes.length : Int) ≤ 9223372036854775807 := by
      obtain ⟨_, _, e, h4, h5⟩ := h.nodes.len
      have := h.len
      unfold maxLen at h5
      omega
    have hz : ((k : Int) + 1 == 0) = false := by simp; omega
    have e1 : (((k + 1 : Nat)) : Int) = (k : Int) + 1 := by omega
    rw [hw, e1]
    clear hw e1
    go_enter Try.func72, Try.ntmps72
    go_wp2_with fail
    go_ret
    exact ⟨rfl, rfl⟩
end Go.Proofs.Ytfnddbglopoghaa
