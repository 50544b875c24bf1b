/-
  No cell of these rows narrows 'for every input' (looked for: loops, veiled, ifaces, maps, wideKeys, modest, calm, conditions, laid).
  DERIVED. THE GIVEN ROWS OF THIS SEAT. 5 by the template 'for every input the law returns true; each argument reads behind the call as it read before'; 0 by the template 'total and deterministic' (their statements: YtmiokopnhkojoaaTotals.lean).
  GIVEN WITH THE SEED: the statements are not yours to turn. If you find one false, say at which input.
  Laid BY PROGRAM, IN A SANDBOX (cutbox-rows.mjs): the forced cells as the released guide's own fill.sh prints them over the translation e27b88ce92dd07a2… (all of the seat's roots in one cut). By AI agents, Wed Nov 11 2026. No macro, syntax, notation, axiom, sorry.
-/
import Derived.Test.YtmiokopnhkojoaaChecked
import GoSem.Claim
import GoSem.ClaimJoined
import GoSem.ClaimMapViews
import Derived.JoinedTies
import Derived.KernelRfl
namespace Go.Proofs.Ytmiokopnhkojoaa
/- THE CELL 'sum', in the pinned program and in every row, IS THE sha256 OF THE DUMP (.gsa) THAT YtmiokopnhkojoaaProg.lean LOADS. Nothing in Lean hashes anything: it is a label: what it is worth is what the hold of that sum in a sandbox is worth. -/
noncomputable def Try.pinned : Pinned := { name := "ytmiokopnhkojoaa", sum := "e27b88ce92dd07a23bacb9271322f000568a396ea25ed322c56f8338cb40fff1", checked := Try.checked }
namespace Rows
def none {H : Type} : Left H := { results := [], args := [] }

/-- 'ticklerlaw07.SkipTells': WHATEVER THE INPUT: true; the input reads as it did. -/
def skipTellsSpec : ChangeSpec := { name := "skipTells", fn := fun _ => fun
  | [d1, d2, d3, d4, d5] => { results := [.lit (.bool true)], args := [d1, d2, d3, d4, d5] }
  | _ => none }
def skipTellsRow : OpenClaim := { program := "ytmiokopnhkojoaa", sum := "e27b88ce92dd07a23bacb9271322f000568a396ea25ed322c56f8338cb40fff1", func := "tickler/ticklerlaw07.SkipTells", spec := "skipTells", unfollowed := true, recurses := true, apart := false }
def SkipTellsSaid : Prop := skipTellsRow.holds Try.pinned (OpenSpec.ofChange skipTellsSpec)

/-- ITS FALSE NEIGHBOUR: 'it returns false'. Refute it at one input. -/
def skipTellsWrong : ChangeSpec := { name := "skipTells", fn := fun _ => fun
  | [d1, d2, d3, d4, d5] => { results := [.lit (.bool false)], args := [d1, d2, d3, d4, d5] }
  | _ => none }
def SkipTellsWrongFalsely : Prop := skipTellsRow.holds Try.pinned (OpenSpec.ofChange skipTellsWrong)

/-- 'ticklerlaw07.SkipDraws': WHATEVER THE INPUT: true; the input reads as it did. -/
def skipDrawsSpec : ChangeSpec := { name := "skipDraws", fn := fun _ => fun
  | [d1, d2, d3] => { results := [.lit (.bool true)], args := [d1, d2, d3] }
  | _ => none }
def skipDrawsRow : OpenClaim := { program := "ytmiokopnhkojoaa", sum := "e27b88ce92dd07a23bacb9271322f000568a396ea25ed322c56f8338cb40fff1", func := "tickler/ticklerlaw07.SkipDraws", spec := "skipDraws", unfollowed := true, recurses := true, apart := false }
def SkipDrawsSaid : Prop := skipDrawsRow.holds Try.pinned (OpenSpec.ofChange skipDrawsSpec)

/-- ITS FALSE NEIGHBOUR: 'it returns false'. Refute it at one input. -/
def skipDrawsWrong : ChangeSpec := { name := "skipDraws", fn := fun _ => fun
  | [d1, d2, d3] => { results := [.lit (.bool false)], args := [d1, d2, d3] }
  | _ => none }
def SkipDrawsWrongFalsely : Prop := skipDrawsRow.holds Try.pinned (OpenSpec.ofChange skipDrawsWrong)

/-- 'ticklerlaw07.SkipAny': WHATEVER THE INPUT: true; the input reads as it did. -/
def skipAnySpec : ChangeSpec := { name := "skipAny", fn := fun _ => fun
  | [d1, d2] => { results := [.lit (.bool true)], args := [d1, d2] }
  | _ => none }
def skipAnyRow : OpenClaim := { program := "ytmiokopnhkojoaa", sum := "e27b88ce92dd07a23bacb9271322f000568a396ea25ed322c56f8338cb40fff1", func := "tickler/ticklerlaw07.SkipAny", spec := "skipAny", unfollowed := true, recurses := true, apart := false }
def SkipAnySaid : Prop := skipAnyRow.holds Try.pinned (OpenSpec.ofChange skipAnySpec)

/-- ITS FALSE NEIGHBOUR: 'it returns false'. Refute it at one input. -/
def skipAnyWrong : ChangeSpec := { name := "skipAny", fn := fun _ => fun
  | [d1, d2] => { results := [.lit (.bool false)], args := [d1, d2] }
  | _ => none }
def SkipAnyWrongFalsely : Prop := skipAnyRow.holds Try.pinned (OpenSpec.ofChange skipAnyWrong)

/-- 'ticklerlaw07.SkipOne': WHATEVER THE INPUT: true; the input reads as it did. -/
def skipOneSpec : ChangeSpec := { name := "skipOne", fn := fun _ => fun
  | [d1, d2, d3, d4, d5] => { results := [.lit (.bool true)], args := [d1, d2, d3, d4, d5] }
  | _ => none }
def skipOneRow : OpenClaim := { program := "ytmiokopnhkojoaa", sum := "e27b88ce92dd07a23bacb9271322f000568a396ea25ed322c56f8338cb40fff1", func := "tickler/ticklerlaw07.SkipOne", spec := "skipOne", unfollowed := true, recurses := true, apart := false }
def SkipOneSaid : Prop := skipOneRow.holds Try.pinned (OpenSpec.ofChange skipOneSpec)

/-- ITS FALSE NEIGHBOUR: 'it returns false'. Refute it at one input. -/
def skipOneWrong : ChangeSpec := { name := "skipOne", fn := fun _ => fun
  | [d1, d2, d3, d4, d5] => { results := [.lit (.bool false)], args := [d1, d2, d3, d4, d5] }
  | _ => none }
def SkipOneWrongFalsely : Prop := skipOneRow.holds Try.pinned (OpenSpec.ofChange skipOneWrong)

/-- 'ticklerlaw07.SkipOwn': WHATEVER THE INPUT: true; the input reads as it did. -/
def skipOwnSpec : ChangeSpec := { name := "skipOwn", fn := fun _ => fun
  | [d1, d2, d3] => { results := [.lit (.bool true)], args := [d1, d2, d3] }
  | _ => none }
def skipOwnRow : OpenClaim := { program := "ytmiokopnhkojoaa", sum := "e27b88ce92dd07a23bacb9271322f000568a396ea25ed322c56f8338cb40fff1", func := "tickler/ticklerlaw07.SkipOwn", spec := "skipOwn", unfollowed := true, recurses := true, apart := false }
def SkipOwnSaid : Prop := skipOwnRow.holds Try.pinned (OpenSpec.ofChange skipOwnSpec)

/-- ITS FALSE NEIGHBOUR: 'it returns false'. Refute it at one input. -/
def skipOwnWrong : ChangeSpec := { name := "skipOwn", fn := fun _ => fun
  | [d1, d2, d3] => { results := [.lit (.bool false)], args := [d1, d2, d3] }
  | _ => none }
def SkipOwnWrongFalsely : Prop := skipOwnRow.holds Try.pinned (OpenSpec.ofChange skipOwnWrong)

/- THE SECOND FORM. 'bulk': how many values and letters a reading holds, each counted each time it is reached (what is shared counts as often as it is met; a slice's spare places count too). A statement '..UptoSaid' is the law's where the arguments, and the package variables that the reading takes, are together of bulk at most 1048576: NARROWER than '..Said'. Prove '..Said' where nothing that the law and all that it calls make is longer than what came in: it says more and counts as full. Else prove '..UptoSaid'. A law counts once. -/
mutual
def uptoBulk {H : Type} : DataW H → Nat
  | .lit (.string bytes) => bytes.length + 1
  | .lit _ => 1
  | .nil => 1
  | .ptr d => uptoBulk d + 1
  | .slice elems spare => uptoBulkAll elems + uptoBulkAll spare + 1
  | .agg parts => uptoBulkAll parts + 1
  | .iface _ d => uptoBulk d + 1
  | .map entries => uptoBulkEntries entries + 1
  | .held _ => 1
def uptoBulkAll {H : Type} : List (DataW H) → Nat
  | [] => 0
  | d :: r => uptoBulk d + uptoBulkAll r
def uptoBulkEntries {H : Type} : List (Lit × DataW H) → Nat
  | [] => 0
  | x :: r => uptoBulkEntry x + uptoBulkEntries r
def uptoBulkEntry {H : Type} : Lit × DataW H → Nat
  | (.string bytes, d) => bytes.length + uptoBulk d + 1
  | (_, d) => uptoBulk d + 1
 end
def uptoSmall : (H : Type) → List (DataW H) → Bool := fun _ ds => decide (uptoBulkAll ds ≤ 1048576)
def OpenSpec.upto (s : _root_.Go.ChangeSpec) : _root_.Go.OpenSpec := { _root_.Go.OpenSpec.ofChange s with cond := some uptoSmall }

/-- 'ticklerlaw07.SkipTells', WHERE WHAT IT READS IS OF BULK AT MOST 1048576: true; the input reads as it did. -/
def skipTellsUptoRow : OpenClaim := { program := "ytmiokopnhkojoaa", sum := "e27b88ce92dd07a23bacb9271322f000568a396ea25ed322c56f8338cb40fff1", func := "tickler/ticklerlaw07.SkipTells", spec := "skipTells", unfollowed := true, recurses := true, apart := false, narrowed := true }
def SkipTellsUptoSaid : Prop := skipTellsUptoRow.holds Try.pinned (OpenSpec.upto skipTellsSpec)

/-- 'ticklerlaw07.SkipDraws', WHERE WHAT IT READS IS OF BULK AT MOST 1048576: true; the input reads as it did. -/
def skipDrawsUptoRow : OpenClaim := { program := "ytmiokopnhkojoaa", sum := "e27b88ce92dd07a23bacb9271322f000568a396ea25ed322c56f8338cb40fff1", func := "tickler/ticklerlaw07.SkipDraws", spec := "skipDraws", unfollowed := true, recurses := true, apart := false, narrowed := true }
def SkipDrawsUptoSaid : Prop := skipDrawsUptoRow.holds Try.pinned (OpenSpec.upto skipDrawsSpec)

/-- 'ticklerlaw07.SkipAny', WHERE WHAT IT READS IS OF BULK AT MOST 1048576: true; the input reads as it did. -/
def skipAnyUptoRow : OpenClaim := { program := "ytmiokopnhkojoaa", sum := "e27b88ce92dd07a23bacb9271322f000568a396ea25ed322c56f8338cb40fff1", func := "tickler/ticklerlaw07.SkipAny", spec := "skipAny", unfollowed := true, recurses := true, apart := false, narrowed := true }
def SkipAnyUptoSaid : Prop := skipAnyUptoRow.holds Try.pinned (OpenSpec.upto skipAnySpec)

/-- 'ticklerlaw07.SkipOne', WHERE WHAT IT READS IS OF BULK AT MOST 1048576: true; the input reads as it did. -/
def skipOneUptoRow : OpenClaim := { program := "ytmiokopnhkojoaa", sum := "e27b88ce92dd07a23bacb9271322f000568a396ea25ed322c56f8338cb40fff1", func := "tickler/ticklerlaw07.SkipOne", spec := "skipOne", unfollowed := true, recurses := true, apart := false, narrowed := true }
def SkipOneUptoSaid : Prop := skipOneUptoRow.holds Try.pinned (OpenSpec.upto skipOneSpec)

/-- 'ticklerlaw07.SkipOwn', WHERE WHAT IT READS IS OF BULK AT MOST 1048576: true; the input reads as it did. -/
def skipOwnUptoRow : OpenClaim := { program := "ytmiokopnhkojoaa", sum := "e27b88ce92dd07a23bacb9271322f000568a396ea25ed322c56f8338cb40fff1", func := "tickler/ticklerlaw07.SkipOwn", spec := "skipOwn", unfollowed := true, recurses := true, apart := false, narrowed := true }
def SkipOwnUptoSaid : Prop := skipOwnUptoRow.holds Try.pinned (OpenSpec.upto skipOwnSpec)

end Rows
end Go.Proofs.Ytmiokopnhkojoaa
