/- A slice of parts that was handed in, read as parts. -/
import Derived.Test.YtjnbjooagdgfpaaParts
import Derived.ProofKit
import Derived.OpenShut
import Derived.SizedLaws
namespace Go.Proofs.Ytjnbjooagdgfpaa
open Go.RowKit Go.ChangeShapes Go.WideShapes
set_option linter.unusedVariables false

theorem Try.cells51 : Try.prog.cellsOf 51 = 3 := by kernel_rfl
theorem Try.bytes51 : Try.prog.bytesOf 51 = 32 := by kernel_rfl
theorem Try.cells4 : Try.prog.cellsOf 4 = 1 := by kernel_rfl
theorem Try.cells3 : Try.prog.cellsOf 3 = 1 := by kernel_rfl
theorem Try.cells9 : Try.prog.cellsOf 9 = 1 := by kernel_rfl

/-- A part as data. -/
def pdat {H : Type} (p : Bool × Int × List Int) : DataW H := .agg [.lit (.bool p.1), .lit (.int .i64 p.2.1), .lit (.string (strOfNums p.2.2).data.toList)]

theorem cells_three {w : World} {base : Nat} {a : Addr} {x y z : Value} (h : w.cells? base a 3 = some [x, y, z]) : w.cell? a = some x ∧ w.cell? (a.add 1) = some y ∧ w.cell? (a.add 2) = some z := by
  obtain ⟨_, _, hc⟩ := World.cells?_some h
  have h0 := hc 0 (by decide)
  have h1 := hc 1 (by decide)
  have h2 := hc 2 (by decide)
  refine ⟨?_, ?_, ?_⟩
  · have e : a.add 0 = a := by cases a; simp [Addr.add]
    rw [e] at h0
    simpa using h0
  · simpa using h1
  · simpa using h2

theorem open_part {H : Type} {enc : TypeId × Value → H} {w : World} {base : Nat} {spare : Nat → Bool} {held : Bool} {fuel : Nat} {cs : List Value} {x : DataW H × List MemPlace}
    (h : DataW.trod enc Try.prog w base spare held fuel 51 cs = some x) : ∃ p : Bool × Int × List Int, Pwf p ∧ x.1 = pdat p ∧ cs = pcells p := by
  obtain ⟨xs, n, _, rfl, hl, hx, hf⟩ := DataW.trod_struct Try.underlying51 h
  rw [Try.cells51] at hl
  match cs, hl with
  | [c0, c1, c2], _ =>
    have f0 : DataW.trod enc Try.prog w base spare held n 4 (([c0, c1, c2].drop 0).take (Try.prog.cellsOf 4)) = xs[0]? := hf 0 _ rfl
    have f1 : DataW.trod enc Try.prog w base spare held n 3 (([c0, c1, c2].drop 1).take (Try.prog.cellsOf 3)) = xs[1]? := hf 1 _ rfl
    have f2 : DataW.trod enc Try.prog w base spare held n 9 (([c0, c1, c2].drop 2).take (Try.prog.cellsOf 9)) = xs[2]? := hf 2 _ rfl
    rw [Try.cells4] at f0
    rw [Try.cells3] at f1
    rw [Try.cells9] at f2
    have hx3 : xs.length = 3 := hx
    match xs, hx3 with
    | [y0, y1, y2], _ =>
      simp at f0 f1 f2
      obtain ⟨b, e0, rfl⟩ := DataW.trod_bool Try.underlying4 f0
      obtain ⟨k, e1, rfl, hk⟩ := DataW.trod_int Try.underlying3 f1
      obtain ⟨s, e2, rfl, hs⟩ := DataW.trod_string Try.underlying9 f2
      simp at e0 e1 e2
      subst e0 e1 e2
      refine ⟨(b, k, nums s), ⟨bounds_i64 hk, nums_octet s, by rw [nums_length]; exact hs⟩, ?_, ?_⟩
      · simp [pdat, str_nums]
      · simp [pcells, str_nums]

theorem arg_parts {H : Type} {enc : TypeId × Value → H} {W : World} {a : Option Addr} {len cap : Nat} {d : DataW H} {ps : List MemPlace}
    (h : DataW.Trod enc Try.prog W 0 (fun _ => true) true 22 (.slice a len cap) d ps) : ∃ l : List (Bool × Int × List Int), Parts W (.slice a len cap) l ∧ ((d = .nil ∧ l = []) ∨ ∃ sp, d = .slice (l.map pdat) sp) := by
  obtain ⟨fuel, hf⟩ := h
  rcases DataW.trod_slice Try.underlying22 hf with ⟨hcs, hx⟩ | ⟨x, len', cap', elems, rest, n, _, hcs, hx, hb, hl, hm, hlen, hel, _, _⟩
  · simp [Value.cells] at hcs
    obtain ⟨rfl, rfl, rfl⟩ := hcs
    simp only [Prod.mk.injEq] at hx
    exact ⟨[], ⟨(fun p hp => by cases hp), none, 0, rfl, by simp, by simp, fun h => absurd rfl h⟩, .inl ⟨hx.1, rfl⟩⟩
  · simp [Value.cells] at hcs
    obtain ⟨rfl, rfl, rfl⟩ := hcs
    simp only [Prod.mk.injEq] at hx
    have each : ∀ i, i < len → ∃ p : Bool × Int × List Int, Pwf p ∧ (elems[i]?).map (·.1) = some (pdat p) ∧ W.cell? (x.add (i * 3)) = some (.bool p.1) ∧ W.cell? ((x.add (i * 3)).add 1) = some (.int .i64 p.2.1) ∧ W.cell? ((x.add (i * 3)).add 2) = some (.string (strOfNums p.2.2)) := by
      intro i hi
      have e := hel i hi
      rw [Try.cells51] at e
      cases hc : W.cells? 0 (x.add (i * 3)) 3 with
      | none =>
        rw [hc] at e
        have : elems[i]? = some (elems[i]'(by omega)) := List.getElem?_eq_getElem (by omega)
        rw [this] at e
        simp at e
      | some cs =>
        rw [hc] at e
        have hi2 : elems[i]? = some (elems[i]'(by omega)) := List.getElem?_eq_getElem (by omega)
        rw [hi2] at e
        obtain ⟨p, hp, h1, h2⟩ := open_part e
        subst h2
        obtain ⟨c0, c1, c2⟩ := cells_three hc
        refine ⟨p, hp, ?_, c0, c1, c2⟩
        rw [hi2, Option.map_some, h1]
    have pick : ∃ l : List (Bool × Int × List Int), l.length = len ∧ ∀ i p, l[i]? = some p → Pwf p ∧ (elems[i]?).map (·.1) = some (pdat p) ∧ W.cell? (x.add (i * 3)) = some (.bool p.1) ∧ W.cell? ((x.add (i * 3)).add 1) = some (.int .i64 p.2.1) ∧ W.cell? ((x.add (i * 3)).add 2) = some (.string (strOfNums p.2.2)) := by
      clear hel hlen hf hx
      revert each
      generalize len = m
      intro each
      have : ∀ j, j ≤ m → ∃ l : List (Bool × Int × List Int), l.length = j ∧ ∀ i p, l[i]? = some p → Pwf p ∧ (elems[i]?).map (·.1) = some (pdat p) ∧ W.cell? (x.add (i * 3)) = some (.bool p.1) ∧ W.cell? ((x.add (i * 3)).add 1) = some (.int .i64 p.2.1) ∧ W.cell? ((x.add (i * 3)).add 2) = some (.string (strOfNums p.2.2)) := by
        intro j
        induction j with
        | zero => intro _; exact ⟨[], rfl, fun i p h => by simp at h⟩
        | succ j ih =>
          intro hj
          obtain ⟨l, hl, hi⟩ := ih (by omega)
          obtain ⟨p, hp⟩ := each j (by omega)
          refine ⟨l ++ [p], by simp [hl], fun i q hq => ?_⟩
          by_cases c : i < l.length
          · rw [List.getElem?_append_left c] at hq
            exact hi i q hq
          · rw [List.getElem?_append_right (by omega)] at hq
            have : i - l.length = 0 := by
              rcases Nat.eq_zero_or_pos (i - l.length) with h | h
              · exact h
              · rw [List.getElem?_eq_none (by simp; omega)] at hq; cases hq
            rw [this] at hq
            simp at hq
            subst hq
            have : i = j := by omega
            subst this
            exact hp
      exact this m (Nat.le_refl _)
    obtain ⟨l, hll, hp⟩ := pick
    refine ⟨l, ⟨?_, some x, cap, by rw [hll], by omega, hm, ?_⟩, .inr ⟨rest.map (·.1), ?_⟩⟩
    · intro p hpm
      obtain ⟨i, hi⟩ := List.getElem?_of_mem hpm
      exact (hp i p hi).1
    · intro hne
      have h0 : 0 < l.length := List.length_pos_iff.2 hne
      obtain ⟨b, off, spot⟩ := x
      have hc := (hp 0 _ (List.getElem?_eq_getElem h0)).2.2.1
      have hspot : spot = none := by simpa [Addr.add] using World.cell?_spot hc
      subst hspot
      refine ⟨b, off, rfl, fun j p hj => ?_⟩
      have := (hp j p hj).2.2
      simpa only [Addr.add_lit] using this
    · rw [hx.1]
      congr 1
      apply List.ext_getElem?
      intro i
      rw [List.getElem?_map, List.getElem?_map]
      by_cases c : i < len
      · have e1 : l[i]? = some (l[i]'(by omega)) := List.getElem?_eq_getElem (by omega)
        rw [(hp i _ e1).2.1, e1]
        rfl
      · rw [List.getElem?_eq_none (by omega), List.getElem?_eq_none (by omega)]
        rfl
end Go.Proofs.Ytjnbjooagdgfpaa
