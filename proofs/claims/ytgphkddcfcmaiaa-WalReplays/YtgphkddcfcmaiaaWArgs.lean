/- Slices of batches that were handed in. -/
import Derived.Test.YtgphkddcfcmaiaaWArg
import Derived.Test.YtgphkddcfcmaiaaWChain
namespace Go.Proofs.Ytgphkddcfcmaiaa
open Go.ChangeShapes Go.WideShapes Go.ChangeAt Go.RowKit SumPlain
set_option linter.unusedVariables false

set_option maxRecDepth 100000 in
theorem arg_batches {H : Type} {enc : TypeId × Value → H} {W : World} {a : Option Addr} {len cap : Nat} {d : DataW H} {ps : List MemPlace}
    (h : DataW.Trod enc Try.prog W 0 (fun _ => true) true 56 (.slice a len cap) d ps) (hw : ∀ n ∈ d.weights Try.prog 56, n ≤ reachBytes) : ∃ zs : List (Value × Int × List Chg), BatsR W (.slice a len cap) zs ∧ ∀ z ∈ zs, z.2.2.length * 40 ≤ 140737488355328 := by
  obtain ⟨fuel, hf⟩ := h
  rcases DataW.trod_slice Try.underlying56 hf with ⟨hcs, hx⟩ | ⟨x, len', cap', elems, rest, n, _, hcs, hx, hb, hl, hm, hlen, hel, _, _⟩
  · simp [Value.cells] at hcs
    obtain ⟨rfl, rfl, rfl⟩ := hcs
    exact ⟨[], ⟨Rws.nil 2 W, fun y hy => by cases hy⟩, fun z hz => by cases hz⟩
  · simp [Value.cells] at hcs
    obtain ⟨rfl, rfl, rfl⟩ := hcs
    simp only [Prod.mk.injEq] at hx
    rw [Try.cells24] at hel
    obtain ⟨m, _, hr, hq⟩ := rows_any (n := 2) (by decide) (W := W) (x := x) hl hm brow (fun _ => rfl) (fun y => ChgsR W y.1 y.2.2 ∧ y.2.2.length * 40 ≤ 140737488351232) (by
      intro i hi
      have e := hel i hi
      have hi2 : elems[i]? = some (elems[i]'(by omega)) := List.getElem?_eq_getElem (by omega)
      rw [hi2] at e
      cases hc : W.cells? 0 (x.add (i * 2)) 2 with
      | none => rw [hc] at e; simp at e
      | some cs =>
        rw [hc] at e
        simp only [Option.bind_some] at e
        obtain ⟨p, rfl, hp⟩ := open_batch e (by
          intro k hk
          refine hw k ?_
          rw [hx.1]
          simp only [DataW.weights, Try.underlying56, List.mem_cons, List.mem_append]
          exact .inr (.inl (weightsAll_mem (List.mem_map.2 ⟨_, List.getElem_mem (by omega : i < elems.length), rfl⟩) k hk)))
        exact ⟨p, rfl, hp⟩)
    exact ⟨m, ⟨hr, fun y hy => (hq y hy).1⟩, fun z hz => by have := (hq z hz).2; omega⟩
end Go.Proofs.Ytgphkddcfcmaiaa
