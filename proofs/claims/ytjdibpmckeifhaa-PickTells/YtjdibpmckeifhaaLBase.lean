/- Versions of layer 7: what may stand, and which comes first. -/
import Derived.Test.YtjdibpmckeifhaaRBase
namespace Go.Proofs.Ytjdibpmckeifhaa
open Go.RowKit
set_option linter.unusedVariables false

structure En where
  key : ByteArray
  seq : Int
  kind : Int
  val : ByteArray
def enV (a : En) : Value := .agg #[.string a.key, .int .i64 a.seq, .int .i64 a.kind, .string a.val]
def enRow (a : En) : List Value := [.string a.key, .int .i64 a.seq, .int .i64 a.kind, .string a.val]
/-- Which of two versions comes first. -/
def beforeE (a b : En) : Bool := Op.bytesLess a.key.toList b.key.toList || ((a.key.toList == b.key.toList) && decide (b.seq < a.seq))

/-- May a version stand? -/
def mayE (a : En) : Bool := decide (1 ≤ (a.key.size : Int) ∧ (a.key.size : Int) ≤ 96 ∧ 1 ≤ a.seq ∧ a.seq ≤ 1099511627776 ∧ (a.kind = 1 ∨ a.kind = 2) ∧ (a.val.size : Int) ≤ 512 ∧ (a.kind = 1 ∨ a.val.toList = []))

end Go.Proofs.Ytjdibpmckeifhaa
