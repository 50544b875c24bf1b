/-
  NARROWER THAN 'FOR EVERY INPUT', by the rows' own cells (each row's printed sentence says how): CivilTells: laid · CivilJoins: laid · CivilBack: laid · CivilNext: laid · CivilYears: laid · CivilOrder: laid.
  DERIVED. THE GIVEN ROWS OF THIS SEAT. 6 by the template 'for every input the law returns true; each argument reads behind the call as it read before'; 0 by the template 'total and deterministic' (their statements: YtgandogkjcljkaaDoorTotals.lean).
  GIVEN WITH THE SEED: the statements are not yours to turn. If you find one false, say at which input.
  Laid BY PROGRAM, IN A SANDBOX (cutbox-rows.mjs): the forced cells as the released guide's own fill.sh prints them over the translation 7a2d3ea5e86999c5… (all of the seat's roots in one cut). By AI agents, Wed Nov 11 2026. No macro, syntax, notation, axiom, sorry.
-/
import Derived.Test.YtgandogkjcljkaaDoorChecked
import GoSem.Claim
import GoSem.ClaimJoined
import GoSem.ClaimMapViews
import Derived.JoinedTies
import Derived.KernelRfl
namespace Go.Proofs.YtgandogkjcljkaaDoor
/- THE CELL 'sum', in the pinned program and in every row, IS THE sha256 OF THE DUMP (.gsa) THAT YtgandogkjcljkaaDoorProg.lean LOADS. Nothing in Lean hashes anything: it is a label: what it is worth is what the hold of that sum in a sandbox is worth. -/
noncomputable def Tryd.pinned : Pinned := { name := "ytgandogkjcljkaadoor", sum := "7a2d3ea5e86999c551aae75b581bf9130d86e7fb3f5b78e54f671d5f11ed9c43", checked := Tryd.checked }
namespace Rows
def none {H : Type} : Left H := { results := [], args := [] }

/- WHAT THE LISTED PACKAGE-LEVEL VARIABLES READ AS WHEN THE CALL BEGINS. Each datum BY PROGRAM (the guide's laid-datum.mjs) off the statement by which the dump's own 'gosem.cut.vars' lays the variable. In a bare row this is a premise. The card (YtgandogkjcljkaaDoorCards.lean) ties it to the program's text. -/
def laid_tickler_civil_lengths {H : Type} : DataW H := .agg [.lit (.int .i64 31), .lit (.int .i64 28), .lit (.int .i64 31), .lit (.int .i64 30), .lit (.int .i64 31), .lit (.int .i64 30), .lit (.int .i64 31), .lit (.int .i64 31), .lit (.int .i64 30), .lit (.int .i64 31), .lit (.int .i64 30), .lit (.int .i64 31)]
def laid_tickler_civil_sizes {H : Type} : DataW H := .agg [.lit (.int .i64 24), .lit (.int .i64 60), .lit (.int .i64 60)]

/-- 'ticklerlaw16.CivilTells': WHATEVER THE INPUT: true; the input reads as it did. -/
def civilTellsSpec : ChangeSpec := { name := "civilTells", fn := fun _ => fun
  | [d1, d2, d3, d4] => { results := [.lit (.bool true)], args := [d1, d2, d3, d4] }
  | _ => none }
def civilTellsRow : OpenClaim := { program := "ytgandogkjcljkaadoor", sum := "7a2d3ea5e86999c551aae75b581bf9130d86e7fb3f5b78e54f671d5f11ed9c43", func := "tickler/ticklerlaw16.CivilTells", spec := "civilTells", unfollowed := true, recurses := true, named := ["tickler/civil.lengths", "tickler/civil.sizes"], apart := false, laid := [("tickler/civil.lengths", laid_tickler_civil_lengths), ("tickler/civil.sizes", laid_tickler_civil_sizes)] }
def CivilTellsSaid : Prop := civilTellsRow.holds Tryd.pinned (OpenSpec.ofChange civilTellsSpec)

/-- ITS FALSE NEIGHBOUR: 'it returns false'. Refute it at one input. -/
def civilTellsWrong : ChangeSpec := { name := "civilTells", fn := fun _ => fun
  | [d1, d2, d3, d4] => { results := [.lit (.bool false)], args := [d1, d2, d3, d4] }
  | _ => none }
def CivilTellsWrongFalsely : Prop := civilTellsRow.holds Tryd.pinned (OpenSpec.ofChange civilTellsWrong)

/-- 'ticklerlaw16.CivilJoins': WHATEVER THE INPUT: true; the input reads as it did. -/
def civilJoinsSpec : ChangeSpec := { name := "civilJoins", fn := fun _ => fun
  | [d] => { results := [.lit (.bool true)], args := [d] }
  | _ => none }
def civilJoinsRow : OpenClaim := { program := "ytgandogkjcljkaadoor", sum := "7a2d3ea5e86999c551aae75b581bf9130d86e7fb3f5b78e54f671d5f11ed9c43", func := "tickler/ticklerlaw16.CivilJoins", spec := "civilJoins", named := ["tickler/civil.sizes", "tickler/civil.lengths"], apart := false, laid := [("tickler/civil.lengths", laid_tickler_civil_lengths), ("tickler/civil.sizes", laid_tickler_civil_sizes)] }
def CivilJoinsSaid : Prop := civilJoinsRow.holds Tryd.pinned (OpenSpec.ofChange civilJoinsSpec)

/-- ITS FALSE NEIGHBOUR: 'it returns false'. Refute it at one input. -/
def civilJoinsWrong : ChangeSpec := { name := "civilJoins", fn := fun _ => fun
  | [d] => { results := [.lit (.bool false)], args := [d] }
  | _ => none }
def CivilJoinsWrongFalsely : Prop := civilJoinsRow.holds Tryd.pinned (OpenSpec.ofChange civilJoinsWrong)

/-- 'ticklerlaw16.CivilBack': WHATEVER THE INPUT: true; the input reads as it did. -/
def civilBackSpec : ChangeSpec := { name := "civilBack", fn := fun _ => fun
  | [d] => { results := [.lit (.bool true)], args := [d] }
  | _ => none }
def civilBackRow : OpenClaim := { program := "ytgandogkjcljkaadoor", sum := "7a2d3ea5e86999c551aae75b581bf9130d86e7fb3f5b78e54f671d5f11ed9c43", func := "tickler/ticklerlaw16.CivilBack", spec := "civilBack", named := ["tickler/civil.sizes", "tickler/civil.lengths"], apart := false, laid := [("tickler/civil.lengths", laid_tickler_civil_lengths), ("tickler/civil.sizes", laid_tickler_civil_sizes)] }
def CivilBackSaid : Prop := civilBackRow.holds Tryd.pinned (OpenSpec.ofChange civilBackSpec)

/-- ITS FALSE NEIGHBOUR: 'it returns false'. Refute it at one input. -/
def civilBackWrong : ChangeSpec := { name := "civilBack", fn := fun _ => fun
  | [d] => { results := [.lit (.bool false)], args := [d] }
  | _ => none }
def CivilBackWrongFalsely : Prop := civilBackRow.holds Tryd.pinned (OpenSpec.ofChange civilBackWrong)

/-- 'ticklerlaw16.CivilNext': WHATEVER THE INPUT: true; the input reads as it did. -/
def civilNextSpec : ChangeSpec := { name := "civilNext", fn := fun _ => fun
  | [d] => { results := [.lit (.bool true)], args := [d] }
  | _ => none }
def civilNextRow : OpenClaim := { program := "ytgandogkjcljkaadoor", sum := "7a2d3ea5e86999c551aae75b581bf9130d86e7fb3f5b78e54f671d5f11ed9c43", func := "tickler/ticklerlaw16.CivilNext", spec := "civilNext", named := ["tickler/civil.sizes", "tickler/civil.lengths"], apart := false, laid := [("tickler/civil.lengths", laid_tickler_civil_lengths), ("tickler/civil.sizes", laid_tickler_civil_sizes)] }
def CivilNextSaid : Prop := civilNextRow.holds Tryd.pinned (OpenSpec.ofChange civilNextSpec)

/-- ITS FALSE NEIGHBOUR: 'it returns false'. Refute it at one input. -/
def civilNextWrong : ChangeSpec := { name := "civilNext", fn := fun _ => fun
  | [d] => { results := [.lit (.bool false)], args := [d] }
  | _ => none }
def CivilNextWrongFalsely : Prop := civilNextRow.holds Tryd.pinned (OpenSpec.ofChange civilNextWrong)

/-- 'ticklerlaw16.CivilYears': WHATEVER THE INPUT: true; the input reads as it did. -/
def civilYearsSpec : ChangeSpec := { name := "civilYears", fn := fun _ => fun
  | [d] => { results := [.lit (.bool true)], args := [d] }
  | _ => none }
def civilYearsRow : OpenClaim := { program := "ytgandogkjcljkaadoor", sum := "7a2d3ea5e86999c551aae75b581bf9130d86e7fb3f5b78e54f671d5f11ed9c43", func := "tickler/ticklerlaw16.CivilYears", spec := "civilYears", named := ["tickler/civil.sizes", "tickler/civil.lengths"], apart := false, laid := [("tickler/civil.lengths", laid_tickler_civil_lengths), ("tickler/civil.sizes", laid_tickler_civil_sizes)] }
def CivilYearsSaid : Prop := civilYearsRow.holds Tryd.pinned (OpenSpec.ofChange civilYearsSpec)

/-- ITS FALSE NEIGHBOUR: 'it returns false'. Refute it at one input. -/
def civilYearsWrong : ChangeSpec := { name := "civilYears", fn := fun _ => fun
  | [d] => { results := [.lit (.bool false)], args := [d] }
  | _ => none }
def CivilYearsWrongFalsely : Prop := civilYearsRow.holds Tryd.pinned (OpenSpec.ofChange civilYearsWrong)

/-- 'ticklerlaw16.CivilOrder': WHATEVER THE INPUT: true; the input reads as it did. -/
def civilOrderSpec : ChangeSpec := { name := "civilOrder", fn := fun _ => fun
  | [d1, d2] => { results := [.lit (.bool true)], args := [d1, d2] }
  | _ => none }
def civilOrderRow : OpenClaim := { program := "ytgandogkjcljkaadoor", sum := "7a2d3ea5e86999c551aae75b581bf9130d86e7fb3f5b78e54f671d5f11ed9c43", func := "tickler/ticklerlaw16.CivilOrder", spec := "civilOrder", unfollowed := true, recurses := true, named := ["tickler/civil.sizes", "tickler/civil.lengths"], apart := false, laid := [("tickler/civil.lengths", laid_tickler_civil_lengths), ("tickler/civil.sizes", laid_tickler_civil_sizes)] }
def CivilOrderSaid : Prop := civilOrderRow.holds Tryd.pinned (OpenSpec.ofChange civilOrderSpec)

/-- ITS FALSE NEIGHBOUR: 'it returns false'. Refute it at one input. -/
def civilOrderWrong : ChangeSpec := { name := "civilOrder", fn := fun _ => fun
  | [d1, d2] => { results := [.lit (.bool false)], args := [d1, d2] }
  | _ => none }
def CivilOrderWrongFalsely : Prop := civilOrderRow.holds Tryd.pinned (OpenSpec.ofChange civilOrderWrong)

/- THE SECOND FORM. 'bulk': how many values and letters a reading holds, each counted each time it is reached (what is shared counts as often as it is met; a slice's spare places count too). A statement '..UptoSaid' is the law's where the arguments, and the package variables that the reading takes, are together of bulk at most 1048576: NARROWER than '..Said'. Prove '..Said' where nothing that the law and all that it calls make is longer than what came in: it says more and counts as full. Else prove '..UptoSaid'. A law counts once. -/
mutual
def uptoBulk {H : Type} : DataW H → Nat
  | .lit (.string bytes) => bytes.length + 1
  | .lit _ => 1
  | .nil => 1
  | .ptr d => uptoBulk d + 1
  | .slice elems spare => uptoBulkAll elems + uptoBulkAll spare + 1
  | .agg parts => uptoBulkAll parts + 1
  | .iface _ d => uptoBulk d + 1
  | .map entries => uptoBulkEntries entries + 1
  | .held _ => 1
def uptoBulkAll {H : Type} : List (DataW H) → Nat
  | [] => 0
  | d :: r => uptoBulk d + uptoBulkAll r
def uptoBulkEntries {H : Type} : List (Lit × DataW H) → Nat
  | [] => 0
  | x :: r => uptoBulkEntry x + uptoBulkEntries r
def uptoBulkEntry {H : Type} : Lit × DataW H → Nat
  | (.string bytes, d) => bytes.length + uptoBulk d + 1
  | (_, d) => uptoBulk d + 1
 end
def uptoSmall : (H : Type) → List (DataW H) → Bool := fun _ ds => decide (uptoBulkAll ds ≤ 1048576)
def OpenSpec.upto (s : _root_.Go.ChangeSpec) : _root_.Go.OpenSpec := { _root_.Go.OpenSpec.ofChange s with cond := some uptoSmall }

/-- 'ticklerlaw16.CivilTells', WHERE WHAT IT READS IS OF BULK AT MOST 1048576: true; the input reads as it did. -/
def civilTellsUptoRow : OpenClaim := { program := "ytgandogkjcljkaadoor", sum := "7a2d3ea5e86999c551aae75b581bf9130d86e7fb3f5b78e54f671d5f11ed9c43", func := "tickler/ticklerlaw16.CivilTells", spec := "civilTells", unfollowed := true, recurses := true, named := ["tickler/civil.lengths", "tickler/civil.sizes"], apart := false, laid := [("tickler/civil.lengths", laid_tickler_civil_lengths), ("tickler/civil.sizes", laid_tickler_civil_sizes)], narrowed := true }
def CivilTellsUptoSaid : Prop := civilTellsUptoRow.holds Tryd.pinned (OpenSpec.upto civilTellsSpec)

/-- 'ticklerlaw16.CivilJoins', WHERE WHAT IT READS IS OF BULK AT MOST 1048576: true; the input reads as it did. -/
def civilJoinsUptoRow : OpenClaim := { program := "ytgandogkjcljkaadoor", sum := "7a2d3ea5e86999c551aae75b581bf9130d86e7fb3f5b78e54f671d5f11ed9c43", func := "tickler/ticklerlaw16.CivilJoins", spec := "civilJoins", named := ["tickler/civil.sizes", "tickler/civil.lengths"], apart := false, laid := [("tickler/civil.lengths", laid_tickler_civil_lengths), ("tickler/civil.sizes", laid_tickler_civil_sizes)], narrowed := true }
def CivilJoinsUptoSaid : Prop := civilJoinsUptoRow.holds Tryd.pinned (OpenSpec.upto civilJoinsSpec)

/-- 'ticklerlaw16.CivilBack', WHERE WHAT IT READS IS OF BULK AT MOST 1048576: true; the input reads as it did. -/
def civilBackUptoRow : OpenClaim := { program := "ytgandogkjcljkaadoor", sum := "7a2d3ea5e86999c551aae75b581bf9130d86e7fb3f5b78e54f671d5f11ed9c43", func := "tickler/ticklerlaw16.CivilBack", spec := "civilBack", named := ["tickler/civil.sizes", "tickler/civil.lengths"], apart := false, laid := [("tickler/civil.lengths", laid_tickler_civil_lengths), ("tickler/civil.sizes", laid_tickler_civil_sizes)], narrowed := true }
def CivilBackUptoSaid : Prop := civilBackUptoRow.holds Tryd.pinned (OpenSpec.upto civilBackSpec)

/-- 'ticklerlaw16.CivilNext', WHERE WHAT IT READS IS OF BULK AT MOST 1048576: true; the input reads as it did. -/
def civilNextUptoRow : OpenClaim := { program := "ytgandogkjcljkaadoor", sum := "7a2d3ea5e86999c551aae75b581bf9130d86e7fb3f5b78e54f671d5f11ed9c43", func := "tickler/ticklerlaw16.CivilNext", spec := "civilNext", named := ["tickler/civil.sizes", "tickler/civil.lengths"], apart := false, laid := [("tickler/civil.lengths", laid_tickler_civil_lengths), ("tickler/civil.sizes", laid_tickler_civil_sizes)], narrowed := true }
def CivilNextUptoSaid : Prop := civilNextUptoRow.holds Tryd.pinned (OpenSpec.upto civilNextSpec)

/-- 'ticklerlaw16.CivilYears', WHERE WHAT IT READS IS OF BULK AT MOST 1048576: true; the input reads as it did. -/
def civilYearsUptoRow : OpenClaim := { program := "ytgandogkjcljkaadoor", sum := "7a2d3ea5e86999c551aae75b581bf9130d86e7fb3f5b78e54f671d5f11ed9c43", func := "tickler/ticklerlaw16.CivilYears", spec := "civilYears", named := ["tickler/civil.sizes", "tickler/civil.lengths"], apart := false, laid := [("tickler/civil.lengths", laid_tickler_civil_lengths), ("tickler/civil.sizes", laid_tickler_civil_sizes)], narrowed := true }
def CivilYearsUptoSaid : Prop := civilYearsUptoRow.holds Tryd.pinned (OpenSpec.upto civilYearsSpec)

/-- 'ticklerlaw16.CivilOrder', WHERE WHAT IT READS IS OF BULK AT MOST 1048576: true; the input reads as it did. -/
def civilOrderUptoRow : OpenClaim := { program := "ytgandogkjcljkaadoor", sum := "7a2d3ea5e86999c551aae75b581bf9130d86e7fb3f5b78e54f671d5f11ed9c43", func := "tickler/ticklerlaw16.CivilOrder", spec := "civilOrder", unfollowed := true, recurses := true, named := ["tickler/civil.sizes", "tickler/civil.lengths"], apart := false, laid := [("tickler/civil.lengths", laid_tickler_civil_lengths), ("tickler/civil.sizes", laid_tickler_civil_sizes)], narrowed := true }
def CivilOrderUptoSaid : Prop := civilOrderUptoRow.holds Tryd.pinned (OpenSpec.upto civilOrderSpec)

end Rows
end Go.Proofs.YtgandogkjcljkaaDoor
