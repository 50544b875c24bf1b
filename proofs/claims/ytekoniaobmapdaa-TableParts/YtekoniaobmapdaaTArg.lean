/- A table of the page that was handed in. -/
import Derived.Test.YtekoniaobmapdaaYArg
import Derived.Lib.SmallJoins
namespace Go.Proofs.Ytekoniaobmapdaa
open Go.Joins Go.ChangeShapes Go.WideShapes Go.ChangeAt Go.RowKit
set_option linter.unusedVariables false
set_option linter.unusedSimpArgs false

theorem arr3 {xs : Array Value} (h : xs.size = 3) : ∃ a b c, xs = #[a, b, c] := by
  match xs, h with
  | ⟨[a, b, c]⟩, _ => exact ⟨a, b, c, rfl⟩
theorem cellsRT : Try.prog.cellsOf 48 = 3 := by kernel_rfl
theorem cellsRF : Try.prog.cellsOf 46 = 2 := by kernel_rfl
theorem cellsES : Try.prog.cellsOf 22 = 1 := by kernel_rfl
theorem cellsOC : Try.prog.cellsOf 23 = 1 := by kernel_rfl
set_option maxRecDepth 100000 in
theorem arg_tab {H : Type} {enc : TypeId × Value → H} {W : World} {base : Nat} {v : Value} {d : DataW H} {p : List MemPlace} (hv : Value.okWide Try.prog W .any base 48 v) (h : DataW.Trod enc Try.prog W 0 (fun _ => true) true 48 v d p) (hw : ∀ n ∈ d.weights Try.prog 48, n ≤ reachBytes) :
    ∃ (a : Option Addr) (c : Nat) (l : List En) (k : Int) (fa : Option Addr) (fc : Nat) (fb : List Int), v = .agg #[.slice a l.length c, .int .i64 k, .slice fa fb.length fc] ∧ EntsR W (.slice a l.length c) l ∧ l.length * 48 ≤ 140737488351232 ∧ Octs W (.slice fa fb.length fc) fb ∧ fb.length ≤ 140737488351232 := by
  obtain ⟨cs, rfl, hsz⟩ := okWide_struct Try.underlying48 hv
  obtain ⟨c0, c1, c2, rfl⟩ := arr3 (hsz.trans cellsRT)
  obtain ⟨fuel, hf⟩ := h
  obtain ⟨y0, y1, n, hx, hl, h0, h1⟩ := trod_struct2 Try.underlying48 hf
  simp only [Prod.mk.injEq] at hx
  obtain ⟨rfl, rfl⟩ := hx
  simp only [cellsES, cellsRF, Value.cells, List.drop_zero, List.take_succ_cons, List.take_zero, List.drop_succ_cons] at h0 h1
  obtain ⟨z0, z1, m, hz, hl2, g0, g1⟩ := trod_struct2 Try.underlying46 h1
  simp only [Try.cells3, cellsOC, List.drop_zero, List.take_succ_cons, List.take_zero, List.drop_succ_cons] at g0 g1
  have hwE : ∀ q ∈ y0.1.weights Try.prog 22, q ≤ reachBytes := fun q hq => hw q (by
    simp [DataW.weights, Try.underlying48, DataW.weightsEach]
    exact .inl hq)
  have hwF : ∀ q ∈ y1.1.weights Try.prog 46, q ≤ reachBytes := fun q hq => hw q (by
    simp [DataW.weights, Try.underlying48, DataW.weightsEach]
    exact .inr hq)
  obtain ⟨v0, l, e0, hE, hEb⟩ := open_ents h0 hwE
  obtain ⟨k, e1, hy, _⟩ := DataW.trod_int Try.underlying3 g0
  obtain ⟨fa, fc, fb, e2, hO, hOb, _⟩ := open_octs g1
  simp at e0 e1 e2
  obtain ⟨a, c, rfl, _, _⟩ := hE.len
  subst e0 e1 e2
  refine ⟨a, c, l, k, fa, fc, fb, rfl, hE, hEb, hO, hOb (fun q hq => hwF q ?_)⟩
  rw [hz]
  simp [DataW.weights, Try.underlying46, DataW.weightsEach]
  exact .inr hq
end Go.Proofs.Ytekoniaobmapdaa
