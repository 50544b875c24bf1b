/- Versions of layer 7: what may stand, and which comes first. -/
import Derived.Test.YtfnddbglopoghaaRBase
namespace Go.Proofs.Ytfnddbglopoghaa
open Go.RowKit
set_option linter.unusedVariables false

structure En where
  key : ByteArray
  seq : Int
  kind : Int
  val : ByteArray
def enV (a : En) : Value := .agg #[.string a.key, .int .i64 a.seq, .int .i64 a.kind, .string a.val]
def enRow (a : En) : List Value := [.string a.key, .int .i64 a.seq, .int .i64 a.kind, .string a.val]
def enObj (a : En) : Obj := .cells #[.string a.key, .int .i64 a.seq, .int .i64 a.kind, .string a.val] 47
/-- Which of two versions comes first. -/
def beforeE (a b : En) : Bool := Op.bytesLess a.key.toList b.key.toList || ((a.key.toList == b.key.toList) && decide (b.seq < a.seq))

set_option maxRecDepth 100000 in
theorem refBefore_any (a b : En) (w : World) :
    Calls Try.prog 49 #[enV a, enV b] w fun e w' => e = .returned (.bool (beforeE a b)) ∧ w' = (w.alloc (enObj a)).alloc (enObj b) := by
  obtain ⟨ak, as1, ad, av⟩ := a
  obtain ⟨bk, bs, bd, bv⟩ := b
  unfold enV
  go_enter Try.func49, Try.ntmps49
  go_wp2
  all_goals
    go_ret
    refine ⟨?_, rfl⟩
    simp_all [beforeE]

/-- May a version stand? -/
def mayE (a : En) : Bool := decide (1 ≤ (a.key.size : Int) ∧ (a.key.size : Int) ≤ 96 ∧ 1 ≤ a.seq ∧ a.seq ≤ 1099511627776 ∧ (a.kind = 1 ∨ a.kind = 2) ∧ (a.val.size : Int) ≤ 512 ∧ (a.kind = 1 ∨ a.val.toList = []))

set_option maxHeartbeats 1000000 in
set_option maxRecDepth 100000 in
theorem refMay_any (a : En) (w : World) :
    Calls Try.prog 48 #[enV a] w fun e w' => e = .returned (.bool (mayE a)) ∧ w' = w.alloc (enObj a) := by
  obtain ⟨ak, as1, ad, av⟩ := a
  unfold enV
  go_enter Try.func48, Try.ntmps48
  go_wp2
  all_goals
    go_ret
    refine ⟨?_, by simp_all [enObj]⟩
    simp_all [mayE]
    try first | omega | (intros; omega) | (cases av.toList <;> simp; done)
end Go.Proofs.Ytfnddbglopoghaa
