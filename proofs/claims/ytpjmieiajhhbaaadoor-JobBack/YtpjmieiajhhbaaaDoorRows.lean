/-
  NARROWER THAN 'FOR EVERY INPUT', by the rows' own cells (each row's printed sentence says how): JobTells: laid · JobTurns: laid · JobBack: laid · JobKeeps: laid · JobDies: laid · JobRecurs: laid.
  DERIVED. THE GIVEN ROWS OF THIS SEAT. 6 by the template 'for every input the law returns true; each argument reads behind the call as it read before'; 0 by the template 'total and deterministic' (their statements: YtpjmieiajhhbaaaDoorTotals.lean).
  GIVEN WITH THE SEED: the statements are not yours to turn. If you find one false, say at which input.
  Laid BY PROGRAM, IN A SANDBOX (cutbox-rows.mjs): the forced cells as the released guide's own fill.sh prints them over the translation 2abaf054bfa6577e… (all of the seat's roots in one cut). By AI agents, Wed Nov 11 2026. No macro, syntax, notation, axiom, sorry.
-/
import Derived.Test.YtpjmieiajhhbaaaDoorChecked
import GoSem.Claim
import GoSem.ClaimJoined
import GoSem.ClaimMapViews
import Derived.JoinedTies
import Derived.KernelRfl
namespace Go.Proofs.YtpjmieiajhhbaaaDoor
/- THE CELL 'sum', in the pinned program and in every row, IS THE sha256 OF THE DUMP (.gsa) THAT YtpjmieiajhhbaaaDoorProg.lean LOADS. Nothing in Lean hashes anything: it is a label: what it is worth is what the hold of that sum in a sandbox is worth. -/
noncomputable def Tryd.pinned : Pinned := { name := "ytpjmieiajhhbaaadoor", sum := "2abaf054bfa6577e3b74ac19e04bcd4f3f074c91ccc41d507250bd2db9a4f6e8", checked := Tryd.checked }
namespace Rows
def none {H : Type} : Left H := { results := [], args := [] }

/- WHAT THE LISTED PACKAGE-LEVEL VARIABLES READ AS WHEN THE CALL BEGINS. Each datum BY PROGRAM (the guide's laid-datum.mjs) off the statement by which the dump's own 'gosem.cut.vars' lays the variable. In a bare row this is a premise. The card (YtpjmieiajhhbaaaDoorCards.lean) ties it to the program's text. -/
def laid_math_bits_deBruijn64tab {H : Type} : DataW H := .agg [.lit (.int .u8 0), .lit (.int .u8 1), .lit (.int .u8 56), .lit (.int .u8 2), .lit (.int .u8 57), .lit (.int .u8 49), .lit (.int .u8 28), .lit (.int .u8 3), .lit (.int .u8 61), .lit (.int .u8 58), .lit (.int .u8 42), .lit (.int .u8 50), .lit (.int .u8 38), .lit (.int .u8 29), .lit (.int .u8 17), .lit (.int .u8 4), .lit (.int .u8 62), .lit (.int .u8 47), .lit (.int .u8 59), .lit (.int .u8 36), .lit (.int .u8 45), .lit (.int .u8 43), .lit (.int .u8 51), .lit (.int .u8 22), .lit (.int .u8 53), .lit (.int .u8 39), .lit (.int .u8 33), .lit (.int .u8 30), .lit (.int .u8 24), .lit (.int .u8 18), .lit (.int .u8 12), .lit (.int .u8 5), .lit (.int .u8 63), .lit (.int .u8 55), .lit (.int .u8 48), .lit (.int .u8 27), .lit (.int .u8 60), .lit (.int .u8 41), .lit (.int .u8 37), .lit (.int .u8 16), .lit (.int .u8 46), .lit (.int .u8 35), .lit (.int .u8 44), .lit (.int .u8 21), .lit (.int .u8 52), .lit (.int .u8 32), .lit (.int .u8 23), .lit (.int .u8 11), .lit (.int .u8 54), .lit (.int .u8 26), .lit (.int .u8 40), .lit (.int .u8 15), .lit (.int .u8 34), .lit (.int .u8 20), .lit (.int .u8 31), .lit (.int .u8 10), .lit (.int .u8 25), .lit (.int .u8 14), .lit (.int .u8 19), .lit (.int .u8 9), .lit (.int .u8 13), .lit (.int .u8 8), .lit (.int .u8 7), .lit (.int .u8 6)]
def laid_tickler_civil_lengths {H : Type} : DataW H := .agg [.lit (.int .i64 31), .lit (.int .i64 28), .lit (.int .i64 31), .lit (.int .i64 30), .lit (.int .i64 31), .lit (.int .i64 30), .lit (.int .i64 31), .lit (.int .i64 31), .lit (.int .i64 30), .lit (.int .i64 31), .lit (.int .i64 30), .lit (.int .i64 31)]
def laid_tickler_civil_sizes {H : Type} : DataW H := .agg [.lit (.int .i64 24), .lit (.int .i64 60), .lit (.int .i64 60)]
def laid_tickler_cron_lows {H : Type} : DataW H := .agg [.lit (.int .i64 0), .lit (.int .i64 0), .lit (.int .i64 1), .lit (.int .i64 1), .lit (.int .i64 0)]
def laid_tickler_cron_highs {H : Type} : DataW H := .agg [.lit (.int .i64 59), .lit (.int .i64 23), .lit (.int .i64 31), .lit (.int .i64 12), .lit (.int .i64 6)]

/-- 'ticklerlaw19.JobTells': WHATEVER THE INPUT: true; the input reads as it did. -/
def jobTellsSpec : ChangeSpec := { name := "jobTells", fn := fun _ => fun
  | [d1, d2] => { results := [.lit (.bool true)], args := [d1, d2] }
  | _ => none }
def jobTellsRow : OpenClaim := { program := "ytpjmieiajhhbaaadoor", sum := "2abaf054bfa6577e3b74ac19e04bcd4f3f074c91ccc41d507250bd2db9a4f6e8", func := "tickler/ticklerlaw19.JobTells", spec := "jobTells", inPlace := ["internal/bytealg.IndexByteString", "internal/bytealg.IndexString"], unfollowed := true, recurses := true, named := ["internal/bytealg.MaxLen", "tickler/cron.lows", "tickler/cron.highs", "math/bits.deBruijn64tab", "tickler/civil.lengths", "tickler/civil.sizes"], apart := false, laid := [("math/bits.deBruijn64tab", laid_math_bits_deBruijn64tab), ("tickler/civil.lengths", laid_tickler_civil_lengths), ("tickler/civil.sizes", laid_tickler_civil_sizes), ("tickler/cron.lows", laid_tickler_cron_lows), ("tickler/cron.highs", laid_tickler_cron_highs)] }
def JobTellsSaid : Prop := jobTellsRow.holds Tryd.pinned (OpenSpec.ofChange jobTellsSpec)

/-- ITS FALSE NEIGHBOUR: 'it returns false'. Refute it at one input. -/
def jobTellsWrong : ChangeSpec := { name := "jobTells", fn := fun _ => fun
  | [d1, d2] => { results := [.lit (.bool false)], args := [d1, d2] }
  | _ => none }
def JobTellsWrongFalsely : Prop := jobTellsRow.holds Tryd.pinned (OpenSpec.ofChange jobTellsWrong)

/-- 'ticklerlaw19.JobTurns': WHATEVER THE INPUT: true; the input reads as it did. -/
def jobTurnsSpec : ChangeSpec := { name := "jobTurns", fn := fun _ => fun
  | [d1, d2, d3, d4, d5] => { results := [.lit (.bool true)], args := [d1, d2, d3, d4, d5] }
  | _ => none }
def jobTurnsRow : OpenClaim := { program := "ytpjmieiajhhbaaadoor", sum := "2abaf054bfa6577e3b74ac19e04bcd4f3f074c91ccc41d507250bd2db9a4f6e8", func := "tickler/ticklerlaw19.JobTurns", spec := "jobTurns", inPlace := ["internal/bytealg.IndexByteString", "internal/bytealg.IndexString"], unfollowed := true, recurses := true, named := ["internal/bytealg.MaxLen", "tickler/cron.lows", "tickler/cron.highs", "math/bits.deBruijn64tab", "tickler/civil.lengths", "tickler/civil.sizes"], apart := false, laid := [("math/bits.deBruijn64tab", laid_math_bits_deBruijn64tab), ("tickler/civil.lengths", laid_tickler_civil_lengths), ("tickler/civil.sizes", laid_tickler_civil_sizes), ("tickler/cron.lows", laid_tickler_cron_lows), ("tickler/cron.highs", laid_tickler_cron_highs)] }
def JobTurnsSaid : Prop := jobTurnsRow.holds Tryd.pinned (OpenSpec.ofChange jobTurnsSpec)

/-- ITS FALSE NEIGHBOUR: 'it returns false'. Refute it at one input. -/
def jobTurnsWrong : ChangeSpec := { name := "jobTurns", fn := fun _ => fun
  | [d1, d2, d3, d4, d5] => { results := [.lit (.bool false)], args := [d1, d2, d3, d4, d5] }
  | _ => none }
def JobTurnsWrongFalsely : Prop := jobTurnsRow.holds Tryd.pinned (OpenSpec.ofChange jobTurnsWrong)

/-- 'ticklerlaw19.JobBack': WHATEVER THE INPUT: true; the input reads as it did. -/
def jobBackSpec : ChangeSpec := { name := "jobBack", fn := fun _ => fun
  | [d1, d2] => { results := [.lit (.bool true)], args := [d1, d2] }
  | _ => none }
def jobBackRow : OpenClaim := { program := "ytpjmieiajhhbaaadoor", sum := "2abaf054bfa6577e3b74ac19e04bcd4f3f074c91ccc41d507250bd2db9a4f6e8", func := "tickler/ticklerlaw19.JobBack", spec := "jobBack", inPlace := ["internal/bytealg.IndexByteString", "internal/bytealg.IndexString"], unfollowed := true, recurses := true, named := ["internal/bytealg.MaxLen", "tickler/cron.lows", "tickler/cron.highs", "math/bits.deBruijn64tab", "tickler/civil.lengths", "tickler/civil.sizes"], apart := false, laid := [("math/bits.deBruijn64tab", laid_math_bits_deBruijn64tab), ("tickler/civil.lengths", laid_tickler_civil_lengths), ("tickler/civil.sizes", laid_tickler_civil_sizes), ("tickler/cron.lows", laid_tickler_cron_lows), ("tickler/cron.highs", laid_tickler_cron_highs)] }
def JobBackSaid : Prop := jobBackRow.holds Tryd.pinned (OpenSpec.ofChange jobBackSpec)

/-- ITS FALSE NEIGHBOUR: 'it returns false'. Refute it at one input. -/
def jobBackWrong : ChangeSpec := { name := "jobBack", fn := fun _ => fun
  | [d1, d2] => { results := [.lit (.bool false)], args := [d1, d2] }
  | _ => none }
def JobBackWrongFalsely : Prop := jobBackRow.holds Tryd.pinned (OpenSpec.ofChange jobBackWrong)

/-- 'ticklerlaw19.JobKeeps': WHATEVER THE INPUT: true; the input reads as it did. -/
def jobKeepsSpec : ChangeSpec := { name := "jobKeeps", fn := fun _ => fun
  | [d1, d2, d3, d4, d5] => { results := [.lit (.bool true)], args := [d1, d2, d3, d4, d5] }
  | _ => none }
def jobKeepsRow : OpenClaim := { program := "ytpjmieiajhhbaaadoor", sum := "2abaf054bfa6577e3b74ac19e04bcd4f3f074c91ccc41d507250bd2db9a4f6e8", func := "tickler/ticklerlaw19.JobKeeps", spec := "jobKeeps", inPlace := ["internal/bytealg.IndexByteString", "internal/bytealg.IndexString"], unfollowed := true, recurses := true, named := ["internal/bytealg.MaxLen", "tickler/cron.lows", "tickler/cron.highs", "math/bits.deBruijn64tab", "tickler/civil.lengths", "tickler/civil.sizes"], apart := false, laid := [("math/bits.deBruijn64tab", laid_math_bits_deBruijn64tab), ("tickler/civil.lengths", laid_tickler_civil_lengths), ("tickler/civil.sizes", laid_tickler_civil_sizes), ("tickler/cron.lows", laid_tickler_cron_lows), ("tickler/cron.highs", laid_tickler_cron_highs)] }
def JobKeepsSaid : Prop := jobKeepsRow.holds Tryd.pinned (OpenSpec.ofChange jobKeepsSpec)

/-- ITS FALSE NEIGHBOUR: 'it returns false'. Refute it at one input. -/
def jobKeepsWrong : ChangeSpec := { name := "jobKeeps", fn := fun _ => fun
  | [d1, d2, d3, d4, d5] => { results := [.lit (.bool false)], args := [d1, d2, d3, d4, d5] }
  | _ => none }
def JobKeepsWrongFalsely : Prop := jobKeepsRow.holds Tryd.pinned (OpenSpec.ofChange jobKeepsWrong)

/-- 'ticklerlaw19.JobDies': WHATEVER THE INPUT: true; the input reads as it did. -/
def jobDiesSpec : ChangeSpec := { name := "jobDies", fn := fun _ => fun
  | [d1, d2, d3] => { results := [.lit (.bool true)], args := [d1, d2, d3] }
  | _ => none }
def jobDiesRow : OpenClaim := { program := "ytpjmieiajhhbaaadoor", sum := "2abaf054bfa6577e3b74ac19e04bcd4f3f074c91ccc41d507250bd2db9a4f6e8", func := "tickler/ticklerlaw19.JobDies", spec := "jobDies", inPlace := ["internal/bytealg.IndexByteString", "internal/bytealg.IndexString"], unfollowed := true, recurses := true, named := ["internal/bytealg.MaxLen", "tickler/cron.lows", "tickler/cron.highs", "math/bits.deBruijn64tab", "tickler/civil.lengths", "tickler/civil.sizes"], apart := false, laid := [("math/bits.deBruijn64tab", laid_math_bits_deBruijn64tab), ("tickler/civil.lengths", laid_tickler_civil_lengths), ("tickler/civil.sizes", laid_tickler_civil_sizes), ("tickler/cron.lows", laid_tickler_cron_lows), ("tickler/cron.highs", laid_tickler_cron_highs)] }
def JobDiesSaid : Prop := jobDiesRow.holds Tryd.pinned (OpenSpec.ofChange jobDiesSpec)

/-- ITS FALSE NEIGHBOUR: 'it returns false'. Refute it at one input. -/
def jobDiesWrong : ChangeSpec := { name := "jobDies", fn := fun _ => fun
  | [d1, d2, d3] => { results := [.lit (.bool false)], args := [d1, d2, d3] }
  | _ => none }
def JobDiesWrongFalsely : Prop := jobDiesRow.holds Tryd.pinned (OpenSpec.ofChange jobDiesWrong)

/-- 'ticklerlaw19.JobRecurs': WHATEVER THE INPUT: true; the input reads as it did. -/
def jobRecursSpec : ChangeSpec := { name := "jobRecurs", fn := fun _ => fun
  | [d1, d2, d3] => { results := [.lit (.bool true)], args := [d1, d2, d3] }
  | _ => none }
def jobRecursRow : OpenClaim := { program := "ytpjmieiajhhbaaadoor", sum := "2abaf054bfa6577e3b74ac19e04bcd4f3f074c91ccc41d507250bd2db9a4f6e8", func := "tickler/ticklerlaw19.JobRecurs", spec := "jobRecurs", inPlace := ["internal/bytealg.IndexByteString", "internal/bytealg.IndexString"], unfollowed := true, recurses := true, named := ["internal/bytealg.MaxLen", "tickler/cron.lows", "tickler/cron.highs", "math/bits.deBruijn64tab", "tickler/civil.lengths", "tickler/civil.sizes"], apart := false, laid := [("math/bits.deBruijn64tab", laid_math_bits_deBruijn64tab), ("tickler/civil.lengths", laid_tickler_civil_lengths), ("tickler/civil.sizes", laid_tickler_civil_sizes), ("tickler/cron.lows", laid_tickler_cron_lows), ("tickler/cron.highs", laid_tickler_cron_highs)] }
def JobRecursSaid : Prop := jobRecursRow.holds Tryd.pinned (OpenSpec.ofChange jobRecursSpec)

/-- ITS FALSE NEIGHBOUR: 'it returns false'. Refute it at one input. -/
def jobRecursWrong : ChangeSpec := { name := "jobRecurs", fn := fun _ => fun
  | [d1, d2, d3] => { results := [.lit (.bool false)], args := [d1, d2, d3] }
  | _ => none }
def JobRecursWrongFalsely : Prop := jobRecursRow.holds Tryd.pinned (OpenSpec.ofChange jobRecursWrong)

/- THE SECOND FORM. 'bulk': how many values and letters a reading holds, each counted each time it is reached (what is shared counts as often as it is met; a slice's spare places count too). A statement '..UptoSaid' is the law's where the arguments, and the package variables that the reading takes, are together of bulk at most 1048576: NARROWER than '..Said'. Prove '..Said' where nothing that the law and all that it calls make is longer than what came in: it says more and counts as full. Else prove '..UptoSaid'. A law counts once. -/
mutual
def uptoBulk {H : Type} : DataW H → Nat
  | .lit (.string bytes) => bytes.length + 1
  | .lit _ => 1
  | .nil => 1
  | .ptr d => uptoBulk d + 1
  | .slice elems spare => uptoBulkAll elems + uptoBulkAll spare + 1
  | .agg parts => uptoBulkAll parts + 1
  | .iface _ d => uptoBulk d + 1
  | .map entries => uptoBulkEntries entries + 1
  | .held _ => 1
def uptoBulkAll {H : Type} : List (DataW H) → Nat
  | [] => 0
  | d :: r => uptoBulk d + uptoBulkAll r
def uptoBulkEntries {H : Type} : List (Lit × DataW H) → Nat
  | [] => 0
  | x :: r => uptoBulkEntry x + uptoBulkEntries r
def uptoBulkEntry {H : Type} : Lit × DataW H → Nat
  | (.string bytes, d) => bytes.length + uptoBulk d + 1
  | (_, d) => uptoBulk d + 1
 end
def uptoSmall : (H : Type) → List (DataW H) → Bool := fun _ ds => decide (uptoBulkAll ds ≤ 1048576)
def OpenSpec.upto (s : _root_.Go.ChangeSpec) : _root_.Go.OpenSpec := { _root_.Go.OpenSpec.ofChange s with cond := some uptoSmall }

/-- 'ticklerlaw19.JobTells', WHERE WHAT IT READS IS OF BULK AT MOST 1048576: true; the input reads as it did. -/
def jobTellsUptoRow : OpenClaim := { program := "ytpjmieiajhhbaaadoor", sum := "2abaf054bfa6577e3b74ac19e04bcd4f3f074c91ccc41d507250bd2db9a4f6e8", func := "tickler/ticklerlaw19.JobTells", spec := "jobTells", inPlace := ["internal/bytealg.IndexByteString", "internal/bytealg.IndexString"], unfollowed := true, recurses := true, named := ["internal/bytealg.MaxLen", "tickler/cron.lows", "tickler/cron.highs", "math/bits.deBruijn64tab", "tickler/civil.lengths", "tickler/civil.sizes"], apart := false, laid := [("math/bits.deBruijn64tab", laid_math_bits_deBruijn64tab), ("tickler/civil.lengths", laid_tickler_civil_lengths), ("tickler/civil.sizes", laid_tickler_civil_sizes), ("tickler/cron.lows", laid_tickler_cron_lows), ("tickler/cron.highs", laid_tickler_cron_highs)], narrowed := true }
def JobTellsUptoSaid : Prop := jobTellsUptoRow.holds Tryd.pinned (OpenSpec.upto jobTellsSpec)

/-- 'ticklerlaw19.JobTurns', WHERE WHAT IT READS IS OF BULK AT MOST 1048576: true; the input reads as it did. -/
def jobTurnsUptoRow : OpenClaim := { program := "ytpjmieiajhhbaaadoor", sum := "2abaf054bfa6577e3b74ac19e04bcd4f3f074c91ccc41d507250bd2db9a4f6e8", func := "tickler/ticklerlaw19.JobTurns", spec := "jobTurns", inPlace := ["internal/bytealg.IndexByteString", "internal/bytealg.IndexString"], unfollowed := true, recurses := true, named := ["internal/bytealg.MaxLen", "tickler/cron.lows", "tickler/cron.highs", "math/bits.deBruijn64tab", "tickler/civil.lengths", "tickler/civil.sizes"], apart := false, laid := [("math/bits.deBruijn64tab", laid_math_bits_deBruijn64tab), ("tickler/civil.lengths", laid_tickler_civil_lengths), ("tickler/civil.sizes", laid_tickler_civil_sizes), ("tickler/cron.lows", laid_tickler_cron_lows), ("tickler/cron.highs", laid_tickler_cron_highs)], narrowed := true }
def JobTurnsUptoSaid : Prop := jobTurnsUptoRow.holds Tryd.pinned (OpenSpec.upto jobTurnsSpec)

/-- 'ticklerlaw19.JobBack', WHERE WHAT IT READS IS OF BULK AT MOST 1048576: true; the input reads as it did. -/
def jobBackUptoRow : OpenClaim := { program := "ytpjmieiajhhbaaadoor", sum := "2abaf054bfa6577e3b74ac19e04bcd4f3f074c91ccc41d507250bd2db9a4f6e8", func := "tickler/ticklerlaw19.JobBack", spec := "jobBack", inPlace := ["internal/bytealg.IndexByteString", "internal/bytealg.IndexString"], unfollowed := true, recurses := true, named := ["internal/bytealg.MaxLen", "tickler/cron.lows", "tickler/cron.highs", "math/bits.deBruijn64tab", "tickler/civil.lengths", "tickler/civil.sizes"], apart := false, laid := [("math/bits.deBruijn64tab", laid_math_bits_deBruijn64tab), ("tickler/civil.lengths", laid_tickler_civil_lengths), ("tickler/civil.sizes", laid_tickler_civil_sizes), ("tickler/cron.lows", laid_tickler_cron_lows), ("tickler/cron.highs", laid_tickler_cron_highs)], narrowed := true }
def JobBackUptoSaid : Prop := jobBackUptoRow.holds Tryd.pinned (OpenSpec.upto jobBackSpec)

/-- 'ticklerlaw19.JobKeeps', WHERE WHAT IT READS IS OF BULK AT MOST 1048576: true; the input reads as it did. -/
def jobKeepsUptoRow : OpenClaim := { program := "ytpjmieiajhhbaaadoor", sum := "2abaf054bfa6577e3b74ac19e04bcd4f3f074c91ccc41d507250bd2db9a4f6e8", func := "tickler/ticklerlaw19.JobKeeps", spec := "jobKeeps", inPlace := ["internal/bytealg.IndexByteString", "internal/bytealg.IndexString"], unfollowed := true, recurses := true, named := ["internal/bytealg.MaxLen", "tickler/cron.lows", "tickler/cron.highs", "math/bits.deBruijn64tab", "tickler/civil.lengths", "tickler/civil.sizes"], apart := false, laid := [("math/bits.deBruijn64tab", laid_math_bits_deBruijn64tab), ("tickler/civil.lengths", laid_tickler_civil_lengths), ("tickler/civil.sizes", laid_tickler_civil_sizes), ("tickler/cron.lows", laid_tickler_cron_lows), ("tickler/cron.highs", laid_tickler_cron_highs)], narrowed := true }
def JobKeepsUptoSaid : Prop := jobKeepsUptoRow.holds Tryd.pinned (OpenSpec.upto jobKeepsSpec)

/-- 'ticklerlaw19.JobDies', WHERE WHAT IT READS IS OF BULK AT MOST 1048576: true; the input reads as it did. -/
def jobDiesUptoRow : OpenClaim := { program := "ytpjmieiajhhbaaadoor", sum := "2abaf054bfa6577e3b74ac19e04bcd4f3f074c91ccc41d507250bd2db9a4f6e8", func := "tickler/ticklerlaw19.JobDies", spec := "jobDies", inPlace := ["internal/bytealg.IndexByteString", "internal/bytealg.IndexString"], unfollowed := true, recurses := true, named := ["internal/bytealg.MaxLen", "tickler/cron.lows", "tickler/cron.highs", "math/bits.deBruijn64tab", "tickler/civil.lengths", "tickler/civil.sizes"], apart := false, laid := [("math/bits.deBruijn64tab", laid_math_bits_deBruijn64tab), ("tickler/civil.lengths", laid_tickler_civil_lengths), ("tickler/civil.sizes", laid_tickler_civil_sizes), ("tickler/cron.lows", laid_tickler_cron_lows), ("tickler/cron.highs", laid_tickler_cron_highs)], narrowed := true }
def JobDiesUptoSaid : Prop := jobDiesUptoRow.holds Tryd.pinned (OpenSpec.upto jobDiesSpec)

/-- 'ticklerlaw19.JobRecurs', WHERE WHAT IT READS IS OF BULK AT MOST 1048576: true; the input reads as it did. -/
def jobRecursUptoRow : OpenClaim := { program := "ytpjmieiajhhbaaadoor", sum := "2abaf054bfa6577e3b74ac19e04bcd4f3f074c91ccc41d507250bd2db9a4f6e8", func := "tickler/ticklerlaw19.JobRecurs", spec := "jobRecurs", inPlace := ["internal/bytealg.IndexByteString", "internal/bytealg.IndexString"], unfollowed := true, recurses := true, named := ["internal/bytealg.MaxLen", "tickler/cron.lows", "tickler/cron.highs", "math/bits.deBruijn64tab", "tickler/civil.lengths", "tickler/civil.sizes"], apart := false, laid := [("math/bits.deBruijn64tab", laid_math_bits_deBruijn64tab), ("tickler/civil.lengths", laid_tickler_civil_lengths), ("tickler/civil.sizes", laid_tickler_civil_sizes), ("tickler/cron.lows", laid_tickler_cron_lows), ("tickler/cron.highs", laid_tickler_cron_highs)], narrowed := true }
def JobRecursUptoSaid : Prop := jobRecursUptoRow.holds Tryd.pinned (OpenSpec.upto jobRecursSpec)

end Rows
end Go.Proofs.YtpjmieiajhhbaaaDoor
