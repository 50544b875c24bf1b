/- Octets, versions and texts that were handed in. -/
import Derived.Test.YtfnddbglopoghaaRows
import Derived.Test.YtfnddbglopoghaaLInts
import Derived.Test.YtfnddbglopoghaaLEnts
import Derived.ProofKit
import Derived.OpenShut
import Derived.SizedLaws
import Derived.ChangeSame
import Derived.Deep.Strs
import Derived.Lib.SmallJoins
namespace Go.Proofs.Ytfnddbglopoghaa
open Go.ChangeShapes Go.WideShapes Go.ChangeAt Go.RowKit
set_option linter.unusedVariables false

theorem pick_list {A : Type} (P : Nat → A → Prop) : ∀ n, (∀ i, i < n → ∃ p, P i p) → ∃ l : List A, l.length = n ∧ ∀ i p, l[i]? = some p → P i p
  | 0, _ => ⟨[], rfl, fun i p h => by simp at h⟩
  | n + 1, h => by
    obtain ⟨l, hl, hp⟩ := pick_list P n (fun i hi => h i (by omega))
    obtain ⟨p, hq⟩ := h n (by omega)
    refine ⟨l ++ [p], by simp [hl], fun i q hi => ?_⟩
    by_cases c : i < l.length
    · rw [List.getElem?_append_left c] at hi
      exact hp i q hi
    · rw [List.getElem?_append_right (by omega)] at hi
      have e : i - l.length = 0 := by
        rcases Nat.eq_zero_or_pos (i - l.length) with h | h
        · exact h
        · rw [List.getElem?_eq_none (by simp; omega)] at hi; cases hi
      rw [e] at hi
      simp at hi
      subst hi
      obtain rfl : i = n := by omega
      exact hq

theorem weightsAll_mem {H : Type} {P : Program} {t : TypeId} : ∀ {l : List (DataW H)} {d : DataW H}, d ∈ l → ∀ n ∈ d.weights P t, n ∈ DataW.weightsAll P t l
  | x :: r, d, hd, n, hn => by
    simp only [DataW.weightsAll, List.mem_append]
    rcases List.mem_cons.1 hd with rfl | hd
    · exact .inl hn
    · exact .inr (weightsAll_mem hd n hn)


theorem rows_any {A : Type} {n : Nat} (hn : 0 < n) {W : World} {x : Addr} {len cap : Nat} (hl : len ≤ cap) (hm : cap ≤ maxLen) (f : A → List Value) (hf : ∀ p, (f p).length = n) (Q : A → Prop)
    (h : ∀ i, i < len → ∃ p, W.cells? 0 (x.add (i * n)) n = some (f p) ∧ Q p) :
    ∃ l : List A, l.length = len ∧ Rws n W (.slice (some x) len cap) (l.map f) ∧ ∀ p ∈ l, Q p := by
  obtain ⟨l, hll, hp⟩ := pick_list (fun i p => W.cells? 0 (x.add (i * n)) n = some (f p) ∧ Q p) len h
  refine ⟨l, hll, ⟨?_, some x, cap, by rw [List.length_map, hll], by rw [List.length_map]; omega, hm, (fun h => by cases h), ?_⟩, ?_⟩
  · intro cs hcs
    obtain ⟨p, _, rfl⟩ := List.mem_map.1 hcs
    exact hf p
  · intro hne
    have h0 : 0 < l.length := List.length_pos_iff.2 (by intro q; rw [q] at hne; simp at hne)
    obtain ⟨b, off, spot⟩ := x
    obtain ⟨_, _, hc⟩ := World.cells?_some (hp 0 _ (List.getElem?_eq_getElem h0)).1
    have hc0 := hc 0 hn
    have hs : (f (l[0]))[0]? = some ((f (l[0]))[0]'(by rw [hf]; exact hn)) := List.getElem?_eq_getElem _
    have hc1 := hc0.trans hs
    have hspot : spot = none := by simpa [Addr.add] using World.cell?_spot hc1
    subst hspot
    refine ⟨b, off, rfl, fun j cs hj i u hi => ?_⟩
    rw [List.getElem?_map] at hj
    cases hq : l[j]? with
    | none => rw [hq] at hj; simp at hj
    | some p =>
      rw [hq] at hj
      simp at hj
      subst hj
      obtain ⟨_, _, hc⟩ := World.cells?_some (hp j p hq).1
      have hi2 : i < n := by
        have := (List.getElem?_eq_some_iff.1 hi).1
        rw [hf] at this
        exact this
      have := (hc i hi2).trans hi
      simpa only [Addr.add_lit] using this
  · intro p hpm
    obtain ⟨i, hi⟩ := List.getElem?_of_mem hpm
    exact (hp i p hi).2

theorem cells_one {w : World} {base : Nat} {a : Addr} {x : Value} (h : w.cells? base a 1 = some [x]) : w.cell? a = some x := by
  obtain ⟨_, _, hc⟩ := World.cells?_some h
  have h0 := hc 0 (by decide)
  have e : a.add 0 = a := by cases a; simp [Addr.add]
  rw [e] at h0
  simpa using h0


theorem Try.cells3 : Try.prog.cellsOf 3 = 1 := by kernel_rfl
theorem Try.cells5 : Try.prog.cellsOf 5 = 1 := by kernel_rfl
theorem Try.cells9 : Try.prog.cellsOf 9 = 1 := by kernel_rfl
theorem Try.cells47 : Try.prog.cellsOf 47 = 4 := by kernel_rfl
theorem Try.bytes5 : Try.prog.bytesOf 5 = 1 := by kernel_rfl
theorem Try.bytes47 : Try.prog.bytesOf 47 = 48 := by kernel_rfl

set_option maxRecDepth 100000 in
theorem open_ent {H : Type} {enc : TypeId × Value → H} {W : World} {fuel : Nat} {cs : List Value} {x : DataW H × List MemPlace} (h : DataW.trod enc Try.prog W 0 (fun _ => true) true fuel 47 cs = some x) :
    ∃ p : En, cs = enRow p := by
  obtain ⟨y0, y1, y2, y3, n, rfl, hl, h0, h1, h2, h3⟩ := Go.Joins.trod_struct4 Try.underlying47 h
  rw [Try.cells47] at hl
  match cs, hl with
  | [c0, c1, c2, c3], _ =>
    simp only [Try.cells9, Try.cells3, List.drop_zero, List.take_succ_cons, List.take_zero, List.drop_succ_cons] at h0 h1 h2 h3
    obtain ⟨s, e0, rfl, hs⟩ := DataW.trod_string Try.underlying9 h0
    obtain ⟨a, e1, rfl, _⟩ := DataW.trod_int Try.underlying3 h1
    obtain ⟨b, e2, rfl, _⟩ := DataW.trod_int Try.underlying3 h2
    obtain ⟨t, e3, rfl, ht⟩ := DataW.trod_string Try.underlying9 h3
    simp at e0 e1 e2 e3
    subst e0 e1 e2 e3
    exact ⟨⟨s, a, b, t⟩, rfl⟩

set_option maxRecDepth 100000 in
theorem open_ents {H : Type} {enc : TypeId × Value → H} {W : World} {fuel : Nat} {cs : List Value} {x : DataW H × List MemPlace} (h : DataW.trod enc Try.prog W 0 (fun _ => true) true fuel 22 cs = some x) (hw : ∀ n ∈ x.1.weights Try.prog 22, n ≤ reachBytes) :
    ∃ (v : Value) (l : List En), cs = [v] ∧ EntsR W v l ∧ l.length * 48 ≤ 140737488351232 := by
  rcases DataW.trod_slice Try.underlying22 h with ⟨hcs, hx⟩ | ⟨x', len, cap, elems, rest, n, _, hcs, hx, hb, hl, hm, hlen, hel, _, _⟩
  · exact ⟨_, [], hcs, Rws.nil 4 W, by simp⟩
  · rw [Try.cells47] at hel
    have hwt := hw ((elems.length + rest.length) * 48) (by
      rw [hx]
      simp [DataW.weights, Try.underlying22, Try.bytes47])
    obtain ⟨l, hll, hr, hq⟩ := rows_any (n := 4) (by decide) (W := W) (x := x') hl hm enRow (fun _ => rfl) (fun p => True) (by
      intro i hi
      have e := hel i hi
      have hi2 : elems[i]? = some (elems[i]'(by omega)) := List.getElem?_eq_getElem (by omega)
      rw [hi2] at e
      cases hc : W.cells? 0 (x'.add (i * 4)) 4 with
      | none => rw [hc] at e; simp at e
      | some cs =>
        rw [hc] at e
        simp only [Option.bind_some] at e
        obtain ⟨p, rfl⟩ := open_ent e
        exact ⟨p, rfl, trivial⟩)
    refine ⟨_, l, hcs, hr, ?_⟩
    unfold reachBytes at hwt
    omega

theorem arg_ents {H : Type} {enc : TypeId × Value → H} {W : World} {a : Option Addr} {len cap : Nat} {d : DataW H} {p : List MemPlace} (h : DataW.Trod enc Try.prog W 0 (fun _ => true) true 22 (.slice a len cap) d p) (hw : ∀ n ∈ d.weights Try.prog 22, n ≤ reachBytes) : ∃ l : List En, EntsR W (.slice a len cap) l ∧ l.length * 48 ≤ 140737488351232 ∧ len = l.length := by
  obtain ⟨fuel, hf⟩ := h
  obtain ⟨v, l, e, hr, hb⟩ := open_ents hf hw
  simp [Value.cells] at e
  subst e
  obtain ⟨_, _, e2, _⟩ := hr.len
  simp only [Value.slice.injEq] at e2
  exact ⟨l, hr, hb, e2.2.1⟩
end Go.Proofs.Ytfnddbglopoghaa
