/- Worlds that only grow: statements whose order is drawn and whose callees only lay blocks. -/
import Derived.Test.YtfomogahlcmniaaLBlk
import Derived.Deep.QuietTactic
namespace Go.Proofs.Ytfomogahlcmniaa
open Go.RowKit
set_option linter.unusedVariables false

/-- A world that is w but for draws and new blocks. -/
structure UpW (w : World) where
  val : World
  up : Below w.heap.size w val

theorem wp_region_up {id : Nat} {Q : Exit → Act → World → Prop} {a : Act} {w : World} {l : List Oper} (hm : Try.prog.follows .mixedOrders = true) (hB : Region.lexB .any l.toArray = true)
    (h : wpQuiet Try.prog l.toArray (fun w' => ∃ p : UpW w, w' = p.val) (fun a' => ∀ w', (∃ p : UpW w, w' = p.val) → Q .normal a' w') l a) : (Code.region id l.toArray true).wp Try.prog Q a w :=
  wp_region_quiet (C := fun w' => ∃ p : UpW w, w' = p.val) hm hB ⟨⟨w.drew, (Below.refl _ w).drew⟩, rfl⟩ (by simpa using h)

theorem calls_up {f : FuncId} {args : Array Value} {w : World} {p : UpW w} {v : Value}
    (h : Calls Try.prog f args p.val fun e w' => e = .returned v ∧ Below p.val.heap.size p.val w') : Calls Try.prog f args p.val fun e w'' => e = .returned v ∧ ∃ q : UpW w, w'' = q.val :=
  h.mono fun _ w' ⟨he, hb⟩ => ⟨he, ⟨w', up_trans p.up hb⟩, rfl⟩

theorem cell_up {w : World} {a : Addr} {v : Value} (h : w.cell? a = some v) (p : UpW w) : p.val.cell? a = some v :=
  (p.up.cell (World.block_lt_of_cell? w a h)).trans h
instance (w : World) : Inhabited (UpW w) := ⟨⟨w, Below.refl _ _⟩⟩
end Go.Proofs.Ytfomogahlcmniaa
