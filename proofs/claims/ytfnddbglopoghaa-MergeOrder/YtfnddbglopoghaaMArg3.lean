/- Runs among the arguments: slices inside a slice. -/
import Derived.Test.YtfnddbglopoghaaMArg2
import Derived.Test.YtfnddbglopoghaaQTwi
namespace Go.Proofs.Ytfnddbglopoghaa
open Go.ChangeShapes Go.WideShapes Go.ChangeAt Go.RowKit
set_option linter.unusedVariables false
theorem Try.cells22 : Try.prog.cellsOf 22 = 1 := by kernel_rfl
theorem Try.bytes22 : Try.prog.bytesOf 22 = 24 := by kernel_rfl
theorem Rws.runs {w : World} {v : Value} {m : List (Value × List En)} (h : Rws 1 w v (m.map fun y => [y.1])) (he : ∀ y ∈ m, EntsR w y.1 y.2) : RunsR w v (m.map (·.2)) := by
  refine ⟨m.map (·.1), ?_, by simp, fun i u r hu hr => ?_⟩
  · rw [List.map_map]
    exact h
  · rw [List.getElem?_map] at hu hr
    cases hq : m[i]? with
    | none => rw [hq] at hu; simp at hu
    | some y =>
      rw [hq] at hu hr
      simp at hu hr
      subst hu hr
      exact he y (List.mem_of_getElem? hq)
theorem arg_runs {H : Type} {enc : TypeId × Value → H} {W : World} {a : Option Addr} {len cap : Nat} {d : DataW H} {ps : List MemPlace}
    (h : DataW.Trod enc Try.prog W 0 (fun _ => true) true 42 (.slice a len cap) d ps) (hw : ∀ n ∈ d.weights Try.prog 42, n ≤ reachBytes) : ∃ l : List (List En), RunsR W (.slice a len cap) l ∧ l.length * 24 ≤ 140737488351232 ∧ (∀ r ∈ l, r.length ≤ 2932031007402) ∧ len = l.length := by
  obtain ⟨fuel, hf⟩ := h
  rcases DataW.trod_slice Try.underlying42 hf with ⟨hcs, hx⟩ | ⟨x, len', cap', elems, rest, n, _, hcs, hx, hb, hl, hm, hlen, hel, _, _⟩
  · simp [Value.cells] at hcs
    obtain ⟨rfl, rfl, rfl⟩ := hcs
    exact ⟨[], ⟨[], Rws.nil 1 W, rfl, fun i u r hu => by simp at hu⟩, by simp, (fun r hr => by cases hr), rfl⟩
  · simp [Value.cells] at hcs
    obtain ⟨rfl, rfl, rfl⟩ := hcs
    simp only [Prod.mk.injEq] at hx
    rw [Try.cells22] at hel
    have hwt := hw ((elems.length + rest.length) * 24) (by
      rw [hx.1]
      simp [DataW.weights, Try.underlying42, Try.bytes22])
    obtain ⟨m, hml, hr, hq⟩ := rows_any (n := 1) (by decide) (W := W) (x := x) hl hm (fun y : Value × List En => [y.1]) (fun _ => rfl) (fun y => EntsR W y.1 y.2 ∧ y.2.length * 48 ≤ 140737488351232) (by
      intro i hi
      have e := hel i hi
      have hi2 : elems[i]? = some (elems[i]'(by omega)) := List.getElem?_eq_getElem (by omega)
      rw [hi2] at e
      cases hc : W.cells? 0 (x.add (i * 1)) 1 with
      | none => rw [hc] at e; simp at e
      | some cs =>
        rw [hc] at e
        simp only [Option.bind_some] at e
        obtain ⟨v, l, h1, h2, h3⟩ := open_ents e (by
          intro k hk
          refine hw k ?_
          rw [hx.1]
          simp only [DataW.weights, Try.underlying42, List.mem_cons, List.mem_append]
          exact .inr (.inl (weightsAll_mem (List.mem_map.2 ⟨_, List.getElem_mem _, rfl⟩) k hk)))
        subst h1
        exact ⟨(v, l), rfl, h2, h3⟩)
    refine ⟨m.map (·.2), Rws.runs hr (fun y hy => (hq y hy).1), ?_, fun r hr => ?_, by simp [hml]⟩
    · rw [List.length_map, hml]
      unfold reachBytes at hwt
      omega
    · obtain ⟨y, hy, rfl⟩ := List.mem_map.1 hr
      have := (hq y hy).2
      omega
end Go.Proofs.Ytfnddbglopoghaa
