/- What the rows' list of variables says; one start that fits. -/
import Derived.Test.YtpjmieiajhhbaaaDoorRows
import Derived.Test.YtpjmieiajhhbaaaDoorCLeaf
import Derived.Lib.LaidTab
import Derived.LaidLaws
import Derived.Stop.LaidErr
import Derived.RowKitTokens
import Derived.JoinedAt
import Derived.JoinedOf
import Derived.ChangeVars
import Derived.ChangeSame
namespace Go.Proofs.YtpjmieiajhhbaaaDoor
open Go.RowKit
set_option linter.unusedVariables false
set_option linter.unusedSimpArgs false

theorem gH : Tryd.prog.globalNamed "tickler/cron.highs" = some 0 := by kernel_rfl
theorem gO : Tryd.prog.globalNamed "tickler/cron.lows" = some 1 := by kernel_rfl
theorem gS : Tryd.prog.globalNamed "tickler/civil.sizes" = some 4 := by kernel_rfl
theorem gD : Tryd.prog.globalNamed "math/bits.deBruijn64tab" = some 2 := by kernel_rfl
theorem gL : Tryd.prog.globalNamed "tickler/civil.lengths" = some 3 := by kernel_rfl
theorem gHt : (Tryd.prog.globals[0]?).map (·.type) = some 161 := by kernel_rfl
theorem gOt : (Tryd.prog.globals[1]?).map (·.type) = some 161 := by kernel_rfl
theorem gSt : (Tryd.prog.globals[4]?).map (·.type) = some 116 := by kernel_rfl
theorem gDt : (Tryd.prog.globals[2]?).map (·.type) = some 174 := by kernel_rfl
theorem gLt : (Tryd.prog.globals[3]?).map (·.type) = some 175 := by kernel_rfl
theorem cellsI : Tryd.prog.cellsOf 3 = 1 := by kernel_rfl
theorem cellsB : Tryd.prog.cellsOf 5 = 1 := by kernel_rfl
theorem cells5 : Tryd.prog.cellsOf 161 = 5 := by kernel_rfl
theorem cells3 : Tryd.prog.cellsOf 116 = 3 := by kernel_rfl
theorem cells64 : Tryd.prog.cellsOf 174 = 64 := by kernel_rfl
theorem cells12 : Tryd.prog.cellsOf 175 = 12 := by kernel_rfl
def debI : List Int := [0, 1, 56, 2, 57, 49, 28, 3, 61, 58, 42, 50, 38, 29, 17, 4, 62, 47, 59, 36, 45, 43, 51, 22, 53, 39, 33, 30, 24, 18, 12, 5, 63, 55, 48, 27, 60, 41, 37, 16, 46, 35, 44, 21, 52, 32, 23, 11, 54, 26, 40, 15, 34, 20, 31, 10, 25, 14, 19, 9, 13, 8, 7, 6]
theorem debI_is : debI = Lib.deBruijn64tab.map Int.ofNat := rfl
/-- The list of the rows. -/
def laidL : List (String × DataW Unit) := [("math/bits.deBruijn64tab", Rows.laid_math_bits_deBruijn64tab), ("tickler/civil.lengths", Rows.laid_tickler_civil_lengths), ("tickler/civil.sizes", Rows.laid_tickler_civil_sizes), ("tickler/cron.lows", Rows.laid_tickler_cron_lows), ("tickler/cron.highs", Rows.laid_tickler_cron_highs)]
theorem env_tabs {W : World} (h1 : Lib.TabIs Tryd.prog W "math/bits.deBruijn64tab" .u8 debI) (h2 : Lib.TabIs Tryd.prog W "tickler/civil.lengths" .i64 [31, 28, 31, 30, 31, 30, 31, 31, 30, 31, 30, 31]) (h3 : Lib.TabIs Tryd.prog W "tickler/civil.sizes" .i64 [24, 60, 60]) (h4 : Lib.TabIs Tryd.prog W "tickler/cron.lows" .i64 [0, 0, 1, 1, 0]) (h5 : Lib.TabIs Tryd.prog W "tickler/cron.highs" .i64 [59, 23, 31, 12, 6]) : Env W := by
  have c4 : ∀ j x, ([31, 28, 31, 30, 31, 30, 31, 31, 30, 31, 30, 31] : List Int)[j]? = some x → W.cell? ⟨3, j, none⟩ = some (.int .i64 x) := by
    intro j x hx
    have h0 := World.var?_cell gL h2 j
    rw [h0, List.getElem?_toArray, List.getElem?_map, hx]
    rfl
  have c2 : ∀ j x, ([24, 60, 60] : List Int)[j]? = some x → W.cell? ⟨4, j, none⟩ = some (.int .i64 x) := by
    intro j x hx
    have h0 := World.var?_cell gS h3 j
    rw [h0, List.getElem?_toArray, List.getElem?_map, hx]
    rfl
  have c1 : ∀ j x, ([0, 0, 1, 1, 0] : List Int)[j]? = some x → W.cell? ⟨1, j, none⟩ = some (.int .i64 x) := by
    intro j x hx
    have h0 := World.var?_cell gO h4 j
    rw [h0, List.getElem?_toArray, List.getElem?_map, hx]
    rfl
  have c0 : ∀ j x, ([59, 23, 31, 12, 6] : List Int)[j]? = some x → W.cell? ⟨0, j, none⟩ = some (.int .i64 x) := by
    intro j x hx
    have h0 := World.var?_cell gH h5 j
    rw [h0, List.getElem?_toArray, List.getElem?_map, hx]
    rfl
  have c3 : ∀ j, j < Lib.deBruijn64tab.length → W.cell? ⟨2, j, none⟩ = some (.int .u8 (Lib.deBruijn64tab.getD j 0)) := by
    intro j hj
    have h0 := World.var?_cell gD h1 j
    have e : debI[j]? = some ((Lib.deBruijn64tab.getD j 0 : Nat) : Int) := by
      rw [debI_is, List.getElem?_map, List.getElem?_eq_getElem hj, List.getD_eq_getElem?_getD, List.getElem?_eq_getElem hj]
      rfl
    rw [h0, List.getElem?_toArray, List.getElem?_map, e]
    rfl
  have b4 := World.block_lt_of_cell? W _ (c2 0 24 rfl)
  exact ⟨c4, c2, c1, c0, c3, b4⟩
theorem env_of {W : World} (h : laidMet Tryd.prog laidL W) : Env W := by
  have h1 : Lib.TabIs Tryd.prog W "math/bits.deBruijn64tab" .u8 debI := Lib.tabIs_of_head gD gDt Tryd.underlying174 Tryd.underlying5 cellsB cells64 h
  have h2 : Lib.TabIs Tryd.prog W "tickler/civil.lengths" .i64 [31, 28, 31, 30, 31, 30, 31, 31, 30, 31, 30, 31] := Lib.tabIs_of_head gL gLt Tryd.underlying175 Tryd.underlying3 cellsI cells12 h.tail
  have h3 : Lib.TabIs Tryd.prog W "tickler/civil.sizes" .i64 [24, 60, 60] := Lib.tabIs_of_head gS gSt Tryd.underlying116 Tryd.underlying3 cellsI cells3 h.tail.tail
  have h4 : Lib.TabIs Tryd.prog W "tickler/cron.lows" .i64 [0, 0, 1, 1, 0] := Lib.tabIs_of_head gO gOt Tryd.underlying161 Tryd.underlying3 cellsI cells5 h.tail.tail.tail
  have h5 : Lib.TabIs Tryd.prog W "tickler/cron.highs" .i64 [59, 23, 31, 12, 6] := Lib.tabIs_of_head gH gHt Tryd.underlying161 Tryd.underlying3 cellsI cells5 h.tail.tail.tail.tail
  exact env_tabs h1 h2 h3 h4 h5
/-! ### one start that fits -/
noncomputable def laidWorld (os : Os) : World :=
  let w0 := World.holding Tryd.prog os ⟨#[], #[], []⟩
  let put (h : Array Obj) (g : Nat) (cs : Array Value) : Array Obj := h.modify g fun
    | .cells _ t frozen => .cells cs t frozen
    | o => o
  let h0 := put w0.heap 0 (([59, 23, 31, 12, 6] : List Int).map fun z => Value.int .i64 z).toArray
  let h1 := put h0 1 (([0, 0, 1, 1, 0] : List Int).map fun z => Value.int .i64 z).toArray
  let h2 := put h1 4 (([24, 60, 60] : List Int).map fun z => Value.int .i64 z).toArray
  let h3 := put h2 2 (debI.map fun z => Value.int .u8 z).toArray
  let h4 := put h3 3 (([31, 28, 31, 30, 31, 30, 31, 31, 30, 31, 30, 31] : List Int).map fun z => Value.int .i64 z).toArray
  { w0 with heap := h4 }
set_option maxRecDepth 100000 in
theorem laidWorld_met (os : Os) (args : Array Value) : laidMet Tryd.prog laidL ((laidWorld os).forCall (fun _ _ => 0) ⟨#[], args, []⟩).memory :=
  laidMet_of_run' 8 (by kernel_rfl) (by kernel_rfl)
end Go.Proofs.YtpjmieiajhhbaaaDoor
