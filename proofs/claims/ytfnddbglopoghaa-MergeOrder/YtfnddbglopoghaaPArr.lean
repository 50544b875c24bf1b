/- Two arrays of eight numbers, held against each other. -/
import Derived.Test.YtfnddbglopoghaaLInts
import Derived.ChangeKeysEq
namespace Go.Proofs.Ytfnddbglopoghaa
open Go.RowKit
set_option linter.unusedVariables false
set_option linter.unusedSimpArgs false

def arrI (L : List Int) : Array Value := (L.map (Value.int .i64)).toArray
theorem arrI_set (L : List Int) (l : Nat) (a : Int) : (arrI L).setIfInBounds l (.int .i64 a) = arrI (L.set l a) := by
  simp [arrI, List.map_set]
theorem arrI_get (L : List Int) (l : Nat) (h : l < L.length) : (arrI L)[l]? = some (.int .i64 (L.getD l 0)) := by
  simp [arrI, List.getD, h]
theorem part_i64 (w : World) (xs : Array Value) (j : Nat) (v : Value) (h : xs[j]? = some v) : (part 3 xs j).run Try.prog w = .ok v w := run_part_plain w (by kernel_rfl) h
theorem cells_i64 : Try.prog.cellsOf 3 = 1 := by kernel_rfl
theorem eqItems_ints (L M : List Int) (w : World) : ∀ is : List Nat, (∀ j ∈ is, j < L.length ∧ j < M.length) → (Op.eqItems 9999 3 1 (arrI L) (arrI M) is).run Try.prog w = .ok (is.all (fun j => L.getD j 0 == M.getD j 0)) w
  | [], _ => by simp [Op.eqItems]
  | j :: is, H => by
    have hj := H j (by simp)
    have p := part_i64 w (arrI L) j _ (arrI_get L j hj.1)
    have q := part_i64 w (arrI M) j _ (arrI_get M j hj.2)
    have e := run_equalIn_int w 9998 3 .i64 .i64 (L.getD j 0) (M.getD j 0) Try.underlying3
    have ih := eqItems_ints L M w is (fun i hi => H i (by simp [hi]))
    simp only [Op.eqItems, Sem.run_bind, Nat.mul_one, p, q, e, Result.andThen_ok]
    rw [List.all_cons]
    cases c : (L.getD j 0 == M.getD j 0)
    · simp only [Bool.not_false, if_true, Bool.false_and]
      rfl
    · simp only [Bool.not_true, Bool.false_eq_true, if_false, Bool.true_and]
      exact ih
set_option maxRecDepth 20000 in
theorem eq_eight (L M : List Int) (h1 : L.length = 8) (h2 : M.length = 8) (w : World) :
    (Op.equalIn 10000 96 (.agg (arrI L)) (.agg (arrI M))).run Try.prog w = .ok (decide (L = M)) w := by
  obtain ⟨i0, hi, _⟩ := info_some Try.info3
  have e := run_equalIn_array w 9999 (arrI L) (arrI M) Try.underlying96 hi
  refine e.trans ?_
  rw [cells_i64, eqItems_ints L M w _ (fun j hj => by simp at hj; omega)]
  congr 1
  rw [Bool.eq_iff_iff]
  simp only [List.all_eq_true, decide_eq_true_eq, List.mem_range, beq_iff_eq]
  constructor
  · intro h
    refine List.ext_getElem (by omega) (fun i a b => ?_)
    have := h i (by omega)
    simpa [List.getD, a, b] using this
  · rintro rfl j _
    rfl
end Go.Proofs.Ytfnddbglopoghaa
