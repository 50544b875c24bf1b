/- What the rows' lists of variables say: the months' lengths and the clock's sizes; and one start that fits. -/
import Derived.Test.YtgandogkjcljkabDoorRows
import Derived.Test.YtgandogkjcljkabDoorCLeaf
import Derived.Lib.LaidTab
import Derived.LaidLaws
import Derived.Stop.LaidErr
import Derived.RowKitTokens
import Derived.JoinedAt
import Derived.JoinedOf
import Derived.ChangeVars
import Derived.ChangeSame
namespace Go.Proofs.YtgandogkjcljkabDoor
open Go.RowKit
set_option linter.unusedVariables false
set_option linter.unusedSimpArgs false

theorem gL : Tryd.prog.globalNamed "tickler/civil.lengths" = some 0 := by kernel_rfl
theorem gS : Tryd.prog.globalNamed "tickler/civil.sizes" = some 1 := by kernel_rfl
theorem gLt : (Tryd.prog.globals[0]?).map (·.type) = some 41 := by kernel_rfl
theorem gSt : (Tryd.prog.globals[1]?).map (·.type) = some 42 := by kernel_rfl
theorem cellsI : Tryd.prog.cellsOf 3 = 1 := by kernel_rfl
theorem cellsL : Tryd.prog.cellsOf 41 = 12 := by kernel_rfl
theorem cellsS : Tryd.prog.cellsOf 42 = 3 := by kernel_rfl
/-- The list of the rows. -/
def laidL : List (String × DataW Unit) := [("tickler/civil.lengths", Rows.laid_tickler_civil_lengths), ("tickler/civil.sizes", Rows.laid_tickler_civil_sizes)]
theorem env_of {W : World} (h : laidMet Tryd.prog laidL W) : Env W := by
  have h1 : Lib.TabIs Tryd.prog W "tickler/civil.lengths" .i64 [31, 28, 31, 30, 31, 30, 31, 31, 30, 31, 30, 31] := Lib.tabIs_of_head gL gLt Tryd.underlying41 Tryd.underlying3 cellsI cellsL h
  have h2 : Lib.TabIs Tryd.prog W "tickler/civil.sizes" .i64 [24, 60, 60] := Lib.tabIs_of_head gS gSt Tryd.underlying42 Tryd.underlying3 cellsI cellsS h.tail
  have c1 : ∀ j x, ([31, 28, 31, 30, 31, 30, 31, 31, 30, 31, 30, 31] : List Int)[j]? = some x → W.cell? ⟨0, j, none⟩ = some (.int .i64 x) := by
    intro j x hx
    have h0 := World.var?_cell gL h1 j
    rw [h0, List.getElem?_toArray, List.getElem?_map, hx]
    rfl
  have c0 : ∀ j x, ([24, 60, 60] : List Int)[j]? = some x → W.cell? ⟨1, j, none⟩ = some (.int .i64 x) := by
    intro j x hx
    have h0 := World.var?_cell gS h2 j
    rw [h0, List.getElem?_toArray, List.getElem?_map, hx]
    rfl
  have b1 := World.block_lt_of_cell? W _ (c1 0 31 rfl)
  have b0 := World.block_lt_of_cell? W _ (c0 0 24 rfl)
  exact ⟨c1, c0, by simp at b0 b1; omega⟩

/-! ### one start that fits -/
noncomputable def laidWorld (os : Os) : World :=
  let w0 := World.holding Tryd.prog os ⟨#[], #[], []⟩
  let put (h : Array Obj) (g : Nat) (cs : Array Value) : Array Obj := h.modify g fun
    | .cells _ t frozen => .cells cs t frozen
    | o => o
  let h0 := put w0.heap 1 (([24, 60, 60] : List Int).map fun z => Value.int .i64 z).toArray
  let h1 := put h0 0 (([31, 28, 31, 30, 31, 30, 31, 31, 30, 31, 30, 31] : List Int).map fun z => Value.int .i64 z).toArray
  { w0 with heap := h1 }
set_option maxRecDepth 100000 in
theorem laidWorld_met (os : Os) (args : Array Value) : laidMet Tryd.prog laidL ((laidWorld os).forCall (fun _ _ => 0) ⟨#[], args, []⟩).memory :=
  laidMet_of_run' 8 (by kernel_rfl) (by kernel_rfl)
end Go.Proofs.YtgandogkjcljkabDoor
