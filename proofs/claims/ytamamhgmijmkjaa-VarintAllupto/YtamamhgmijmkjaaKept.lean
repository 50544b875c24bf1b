/- Octets that lie in memory stay what they are in every later world; varint.Put once more in these words. -/
import Derived.Test.YtamamhgmijmkjaaLex
import Derived.OpenShut
import Derived.Deep.RegionWith
namespace Go.Proofs.Ytamamhgmijmkjaa
open Go.RowKit
set_option linter.unusedVariables false

/-- The slice v holds the octets l in w, and lies in w's memory. -/
def Kept (w : World) (v : Value) (l : List Int) : Prop := Octs w v l ∧ ∀ k, v.ownBlock = some k → k < w.heap.size

theorem Kept.up {w w' : World} {v : Value} {l : List Int} (h : Kept w v l) (hb : Below w.heap.size w w') : Kept w' v l :=
  ⟨h.1.step h.2 hb, fun k hk => Nat.lt_of_lt_of_le (h.2 k hk) hb.size⟩

theorem Kept.run {w : World} {v : Value} {l : List Int} (h : Kept w v l) : (convert 23 9 v).run Try.prog w = .ok (.string (strOfNums l)) w := run_convert_octs l v w h.1

theorem put_kept (n : Int) (w : World) (h0 : 0 ≤ n) (h1 : n ≤ 18446744073709551615) :
    Calls Try.prog 15 #[.int .u64 n] w fun e w' => ∃ v, e = .returned v ∧ Kept w' v (octets n) ∧ Below w.heap.size w w' := by
  refine (put_any n w h0 h1).mono ?_
  rintro e w' ⟨v, rfl, ho, hb⟩
  exact ⟨v, rfl, ⟨Octs.own ho (octets_form n h0 h1).octet, fun k hk => (ho.lt k hk).2⟩, hb⟩

end Go.Proofs.Ytamamhgmijmkjaa
