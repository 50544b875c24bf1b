/- A slice of numbers among the arguments. -/
import Derived.Test.YtfnddbglopoghaaMArg
namespace Go.Proofs.Ytfnddbglopoghaa
open Go.ChangeShapes Go.WideShapes Go.ChangeAt Go.RowKit
set_option linter.unusedVariables false
theorem Try.bytes3 : Try.prog.bytesOf 3 = 8 := by kernel_rfl
def In64 (x : Int) : Prop := -9223372036854775808 ≤ x ∧ x ≤ 9223372036854775807
set_option maxRecDepth 100000 in
theorem open_nums {H : Type} {enc : TypeId × Value → H} {W : World} {fuel : Nat} {cs : List Value} {x : DataW H × List MemPlace} (h : DataW.trod enc Try.prog W 0 (fun _ => true) true fuel 37 cs = some x) (hw : ∀ n ∈ x.1.weights Try.prog 37, n ≤ reachBytes) :
    ∃ (v : Value) (l : List Int), cs = [v] ∧ IntsR W v l ∧ l.length * 8 ≤ 140737488351232 ∧ ∀ i ∈ l, In64 i := by
  rcases DataW.trod_slice Try.underlying37 h with ⟨hcs, hx⟩ | ⟨x', len, cap, elems, rest, n, _, hcs, hx, hb, hl, hm, hlen, hel, _, _⟩
  · exact ⟨_, [], hcs, Rws.nil 1 W, by simp, by simp⟩
  · rw [Try.cells3] at hel
    have hwt := hw ((elems.length + rest.length) * 8) (by
      rw [hx]
      simp [DataW.weights, Try.underlying37, Try.bytes3])
    obtain ⟨l, hll, hr, hq⟩ := rows_any (n := 1) (by decide) (W := W) (x := x') hl hm irow (fun _ => rfl) (fun p => In64 p) (by
      intro i hi
      have e := hel i hi
      have hi2 : elems[i]? = some (elems[i]'(by omega)) := List.getElem?_eq_getElem (by omega)
      rw [hi2] at e
      cases hc : W.cells? 0 (x'.add (i * 1)) 1 with
      | none => rw [hc] at e; simp at e
      | some cs =>
        rw [hc] at e
        simp only [Option.bind_some] at e
        obtain ⟨a, e0, _, hwf⟩ := DataW.trod_int Try.underlying3 e
        subst e0
        exact ⟨a, rfl, bounds_i64 hwf⟩)
    refine ⟨_, l, hcs, hr, ?_, hq⟩
    unfold reachBytes at hwt
    omega


theorem arg_intsQ {H : Type} {enc : TypeId × Value → H} {W : World} {a : Option Addr} {len cap : Nat} {d : DataW H} {p : List MemPlace} (h : DataW.Trod enc Try.prog W 0 (fun _ => true) true 37 (.slice a len cap) d p) (hw : ∀ n ∈ d.weights Try.prog 37, n ≤ reachBytes) : ∃ l : List Int, IntsR W (.slice a len cap) l ∧ l.length * 8 ≤ 140737488351232 ∧ len = l.length := by
  obtain ⟨fuel, hf⟩ := h
  obtain ⟨v, l, e, hr, hb, _⟩ := open_nums hf hw
  simp [Value.cells] at e
  subst e
  obtain ⟨_, _, e2, _⟩ := hr.len
  simp only [Value.slice.injEq] at e2
  exact ⟨l, hr, hb, e2.2.1⟩
end Go.Proofs.Ytfnddbglopoghaa
