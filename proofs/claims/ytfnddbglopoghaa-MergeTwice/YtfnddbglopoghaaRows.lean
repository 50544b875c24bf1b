/-
  No cell of these rows narrows 'for every input' (looked for: loops, veiled, ifaces, maps, wideKeys, modest, calm, conditions, laid).
  DERIVED. THE GIVEN ROWS OF THIS SEAT. 5 by the template 'for every input the law returns true; each argument reads behind the call as it read before'; 0 by the template 'total and deterministic' (their statements: YtfnddbglopoghaaTotals.lean).
  GIVEN WITH THE SEED: the statements are not yours to turn. If you find one false, say at which input.
  Laid BY PROGRAM, IN A SANDBOX (cutbox-rows.mjs): the forced cells as the released guide's own fill.sh prints them over the translation 84439ebafd5051e5… (all of the seat's roots in one cut). By AI agents, Wed Nov 11 2026. No macro, syntax, notation, axiom, sorry.
-/
import Derived.Test.YtfnddbglopoghaaChecked
import GoSem.Claim
import GoSem.ClaimJoined
import GoSem.ClaimMapViews
import Derived.JoinedTies
import Derived.KernelRfl
namespace Go.Proofs.Ytfnddbglopoghaa
/- THE CELL 'sum', in the pinned program and in every row, IS THE sha256 OF THE DUMP (.gsa) THAT YtfnddbglopoghaaProg.lean LOADS. Nothing in Lean hashes anything: it is a label: what it is worth is what the hold of that sum in a sandbox is worth. -/
noncomputable def Try.pinned : Pinned := { name := "ytfnddbglopoghaa", sum := "84439ebafd5051e527ac22a009bcc467b8aabf31553a0a4a55b1718b38cc374f", checked := Try.checked }
namespace Rows
def none {H : Type} : Left H := { results := [], args := [] }

/-- 'ticklerlaw13.MergeLooks': WHATEVER THE INPUT: true; the input reads as it did. -/
def mergeLooksSpec : ChangeSpec := { name := "mergeLooks", fn := fun _ => fun
  | [d1, d2, d3, d4, d5] => { results := [.lit (.bool true)], args := [d1, d2, d3, d4, d5] }
  | _ => none }
def mergeLooksRow : OpenClaim := { program := "ytfnddbglopoghaa", sum := "84439ebafd5051e527ac22a009bcc467b8aabf31553a0a4a55b1718b38cc374f", func := "tickler/ticklerlaw13.MergeLooks", spec := "mergeLooks", unfollowed := true, recurses := true, plainKeys := false, apart := false }
def MergeLooksSaid : Prop := mergeLooksRow.holds Try.pinned (OpenSpec.ofChange mergeLooksSpec)

/-- ITS FALSE NEIGHBOUR: 'it returns false'. Refute it at one input. -/
def mergeLooksWrong : ChangeSpec := { name := "mergeLooks", fn := fun _ => fun
  | [d1, d2, d3, d4, d5] => { results := [.lit (.bool false)], args := [d1, d2, d3, d4, d5] }
  | _ => none }
def MergeLooksWrongFalsely : Prop := mergeLooksRow.holds Try.pinned (OpenSpec.ofChange mergeLooksWrong)

/-- 'ticklerlaw13.MergeSame': WHATEVER THE INPUT: true; the input reads as it did. -/
def mergeSameSpec : ChangeSpec := { name := "mergeSame", fn := fun _ => fun
  | [d1, d2, d3] => { results := [.lit (.bool true)], args := [d1, d2, d3] }
  | _ => none }
def mergeSameRow : OpenClaim := { program := "ytfnddbglopoghaa", sum := "84439ebafd5051e527ac22a009bcc467b8aabf31553a0a4a55b1718b38cc374f", func := "tickler/ticklerlaw13.MergeSame", spec := "mergeSame", unfollowed := true, recurses := true, plainKeys := false, apart := false }
def MergeSameSaid : Prop := mergeSameRow.holds Try.pinned (OpenSpec.ofChange mergeSameSpec)

/-- ITS FALSE NEIGHBOUR: 'it returns false'. Refute it at one input. -/
def mergeSameWrong : ChangeSpec := { name := "mergeSame", fn := fun _ => fun
  | [d1, d2, d3] => { results := [.lit (.bool false)], args := [d1, d2, d3] }
  | _ => none }
def MergeSameWrongFalsely : Prop := mergeSameRow.holds Try.pinned (OpenSpec.ofChange mergeSameWrong)

/-- 'ticklerlaw13.MergeTwice': WHATEVER THE INPUT: true; the input reads as it did. -/
def mergeTwiceSpec : ChangeSpec := { name := "mergeTwice", fn := fun _ => fun
  | [d1, d2, d3] => { results := [.lit (.bool true)], args := [d1, d2, d3] }
  | _ => none }
def mergeTwiceRow : OpenClaim := { program := "ytfnddbglopoghaa", sum := "84439ebafd5051e527ac22a009bcc467b8aabf31553a0a4a55b1718b38cc374f", func := "tickler/ticklerlaw13.MergeTwice", spec := "mergeTwice", unfollowed := true, recurses := true, plainKeys := false, apart := false }
def MergeTwiceSaid : Prop := mergeTwiceRow.holds Try.pinned (OpenSpec.ofChange mergeTwiceSpec)

/-- ITS FALSE NEIGHBOUR: 'it returns false'. Refute it at one input. -/
def mergeTwiceWrong : ChangeSpec := { name := "mergeTwice", fn := fun _ => fun
  | [d1, d2, d3] => { results := [.lit (.bool false)], args := [d1, d2, d3] }
  | _ => none }
def MergeTwiceWrongFalsely : Prop := mergeTwiceRow.holds Try.pinned (OpenSpec.ofChange mergeTwiceWrong)

/-- 'ticklerlaw13.MergeOrder': WHATEVER THE INPUT: true; the input reads as it did. -/
def mergeOrderSpec : ChangeSpec := { name := "mergeOrder", fn := fun _ => fun
  | [d] => { results := [.lit (.bool true)], args := [d] }
  | _ => none }
def mergeOrderRow : OpenClaim := { program := "ytfnddbglopoghaa", sum := "84439ebafd5051e527ac22a009bcc467b8aabf31553a0a4a55b1718b38cc374f", func := "tickler/ticklerlaw13.MergeOrder", spec := "mergeOrder", unfollowed := true, recurses := true, plainKeys := false, apart := false }
def MergeOrderSaid : Prop := mergeOrderRow.holds Try.pinned (OpenSpec.ofChange mergeOrderSpec)

/-- ITS FALSE NEIGHBOUR: 'it returns false'. Refute it at one input. -/
def mergeOrderWrong : ChangeSpec := { name := "mergeOrder", fn := fun _ => fun
  | [d] => { results := [.lit (.bool false)], args := [d] }
  | _ => none }
def MergeOrderWrongFalsely : Prop := mergeOrderRow.holds Try.pinned (OpenSpec.ofChange mergeOrderWrong)

/-- 'ticklerlaw13.MergeBottom': WHATEVER THE INPUT: true; the input reads as it did. -/
def mergeBottomSpec : ChangeSpec := { name := "mergeBottom", fn := fun _ => fun
  | [d1, d2] => { results := [.lit (.bool true)], args := [d1, d2] }
  | _ => none }
def mergeBottomRow : OpenClaim := { program := "ytfnddbglopoghaa", sum := "84439ebafd5051e527ac22a009bcc467b8aabf31553a0a4a55b1718b38cc374f", func := "tickler/ticklerlaw13.MergeBottom", spec := "mergeBottom", unfollowed := true, recurses := true, plainKeys := false, apart := false }
def MergeBottomSaid : Prop := mergeBottomRow.holds Try.pinned (OpenSpec.ofChange mergeBottomSpec)

/-- ITS FALSE NEIGHBOUR: 'it returns false'. Refute it at one input. -/
def mergeBottomWrong : ChangeSpec := { name := "mergeBottom", fn := fun _ => fun
  | [d1, d2] => { results := [.lit (.bool false)], args := [d1, d2] }
  | _ => none }
def MergeBottomWrongFalsely : Prop := mergeBottomRow.holds Try.pinned (OpenSpec.ofChange mergeBottomWrong)

/- THE SECOND FORM. 'bulk': how many values and letters a reading holds, each counted each time it is reached (what is shared counts as often as it is met; a slice's spare places count too). A statement '..UptoSaid' is the law's where the arguments, and the package variables that the reading takes, are together of bulk at most 1048576: NARROWER than '..Said'. Prove '..Said' where nothing that the law and all that it calls make is longer than what came in: it says more and counts as full. Else prove '..UptoSaid'. A law counts once. -/
mutual
def uptoBulk {H : Type} : DataW H → Nat
  | .lit (.string bytes) => bytes.length + 1
  | .lit _ => 1
  | .nil => 1
  | .ptr d => uptoBulk d + 1
  | .slice elems spare => uptoBulkAll elems + uptoBulkAll spare + 1
  | .agg parts => uptoBulkAll parts + 1
  | .iface _ d => uptoBulk d + 1
  | .map entries => uptoBulkEntries entries + 1
  | .held _ => 1
def uptoBulkAll {H : Type} : List (DataW H) → Nat
  | [] => 0
  | d :: r => uptoBulk d + uptoBulkAll r
def uptoBulkEntries {H : Type} : List (Lit × DataW H) → Nat
  | [] => 0
  | x :: r => uptoBulkEntry x + uptoBulkEntries r
def uptoBulkEntry {H : Type} : Lit × DataW H → Nat
  | (.string bytes, d) => bytes.length + uptoBulk d + 1
  | (_, d) => uptoBulk d + 1
 end
def uptoSmall : (H : Type) → List (DataW H) → Bool := fun _ ds => decide (uptoBulkAll ds ≤ 1048576)
def OpenSpec.upto (s : _root_.Go.ChangeSpec) : _root_.Go.OpenSpec := { _root_.Go.OpenSpec.ofChange s with cond := some uptoSmall }

/-- 'ticklerlaw13.MergeLooks', WHERE WHAT IT READS IS OF BULK AT MOST 1048576: true; the input reads as it did. -/
def mergeLooksUptoRow : OpenClaim := { program := "ytfnddbglopoghaa", sum := "84439ebafd5051e527ac22a009bcc467b8aabf31553a0a4a55b1718b38cc374f", func := "tickler/ticklerlaw13.MergeLooks", spec := "mergeLooks", unfollowed := true, recurses := true, plainKeys := false, apart := false, narrowed := true }
def MergeLooksUptoSaid : Prop := mergeLooksUptoRow.holds Try.pinned (OpenSpec.upto mergeLooksSpec)

/-- 'ticklerlaw13.MergeSame', WHERE WHAT IT READS IS OF BULK AT MOST 1048576: true; the input reads as it did. -/
def mergeSameUptoRow : OpenClaim := { program := "ytfnddbglopoghaa", sum := "84439ebafd5051e527ac22a009bcc467b8aabf31553a0a4a55b1718b38cc374f", func := "tickler/ticklerlaw13.MergeSame", spec := "mergeSame", unfollowed := true, recurses := true, plainKeys := false, apart := false, narrowed := true }
def MergeSameUptoSaid : Prop := mergeSameUptoRow.holds Try.pinned (OpenSpec.upto mergeSameSpec)

/-- 'ticklerlaw13.MergeTwice', WHERE WHAT IT READS IS OF BULK AT MOST 1048576: true; the input reads as it did. -/
def mergeTwiceUptoRow : OpenClaim := { program := "ytfnddbglopoghaa", sum := "84439ebafd5051e527ac22a009bcc467b8aabf31553a0a4a55b1718b38cc374f", func := "tickler/ticklerlaw13.MergeTwice", spec := "mergeTwice", unfollowed := true, recurses := true, plainKeys := false, apart := false, narrowed := true }
def MergeTwiceUptoSaid : Prop := mergeTwiceUptoRow.holds Try.pinned (OpenSpec.upto mergeTwiceSpec)

/-- 'ticklerlaw13.MergeOrder', WHERE WHAT IT READS IS OF BULK AT MOST 1048576: true; the input reads as it did. -/
def mergeOrderUptoRow : OpenClaim := { program := "ytfnddbglopoghaa", sum := "84439ebafd5051e527ac22a009bcc467b8aabf31553a0a4a55b1718b38cc374f", func := "tickler/ticklerlaw13.MergeOrder", spec := "mergeOrder", unfollowed := true, recurses := true, plainKeys := false, apart := false, narrowed := true }
def MergeOrderUptoSaid : Prop := mergeOrderUptoRow.holds Try.pinned (OpenSpec.upto mergeOrderSpec)

/-- 'ticklerlaw13.MergeBottom', WHERE WHAT IT READS IS OF BULK AT MOST 1048576: true; the input reads as it did. -/
def mergeBottomUptoRow : OpenClaim := { program := "ytfnddbglopoghaa", sum := "84439ebafd5051e527ac22a009bcc467b8aabf31553a0a4a55b1718b38cc374f", func := "tickler/ticklerlaw13.MergeBottom", spec := "mergeBottom", unfollowed := true, recurses := true, plainKeys := false, apart := false, narrowed := true }
def MergeBottomUptoSaid : Prop := mergeBottomUptoRow.holds Try.pinned (OpenSpec.upto mergeBottomSpec)

end Rows
end Go.Proofs.Ytfnddbglopoghaa
