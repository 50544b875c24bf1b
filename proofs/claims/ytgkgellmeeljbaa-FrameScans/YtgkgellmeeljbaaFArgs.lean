/- A slice of records that was handed in. -/
import Derived.Test.YtgkgellmeeljbaaFArg
import Derived.Test.YtgkgellmeeljbaaFSame
namespace Go.Proofs.Ytgkgellmeeljbaa
open Go.ChangeShapes Go.WideShapes Go.ChangeAt Go.RowKit SumPlain
set_option linter.unusedVariables false

theorem Try.cells24 : Try.prog.cellsOf 24 = 2 := by kernel_rfl
theorem Try.cells3 : Try.prog.cellsOf 3 = 1 := by kernel_rfl
theorem Try.cells22 : Try.prog.cellsOf 22 = 1 := by kernel_rfl

theorem pick_list {A : Type} (P : Nat → A → Prop) : ∀ n, (∀ i, i < n → ∃ p, P i p) → ∃ l : List A, l.length = n ∧ ∀ i p, l[i]? = some p → P i p
  | 0, _ => ⟨[], rfl, fun i p h => by simp at h⟩
  | n + 1, h => by
    obtain ⟨l, hl, hp⟩ := pick_list P n (fun i hi => h i (by omega))
    obtain ⟨p, hq⟩ := h n (by omega)
    refine ⟨l ++ [p], by simp [hl], fun i q hi => ?_⟩
    by_cases c : i < l.length
    · rw [List.getElem?_append_left c] at hi
      exact hp i q hi
    · rw [List.getElem?_append_right (by omega)] at hi
      have e : i - l.length = 0 := by
        rcases Nat.eq_zero_or_pos (i - l.length) with h | h
        · exact h
        · rw [List.getElem?_eq_none (by simp; omega)] at hi; cases hi
      rw [e] at hi
      simp at hi
      subst hi
      obtain rfl : i = n := by omega
      exact hq

theorem weightsAll_mem {H : Type} {P : Program} {t : TypeId} : ∀ {l : List (DataW H)} {d : DataW H}, d ∈ l → ∀ n ∈ d.weights P t, n ∈ DataW.weightsAll P t l
  | x :: r, d, hd, n, hn => by
    simp only [DataW.weightsAll, List.mem_append]
    rcases List.mem_cons.1 hd with rfl | hd
    · exact .inl hn
    · exact .inr (weightsAll_mem hd n hn)


theorem rows_rec {W : World} {x : Addr} {len cap : Nat} (hl : len ≤ cap) (hm : cap ≤ maxLen) (Q : Got → Prop) (h : ∀ i, i < len → ∃ p : Got, (W.cell? ((x.add (i * 2)).add 0) = some (.int .i64 p.2.1) ∧ W.cell? ((x.add (i * 2)).add 1) = some p.1) ∧ Q p) :
    ∃ l : List Got, Rws 2 W (.slice (some x) len cap) (l.map grow) ∧ ∀ p ∈ l, Q p := by
  obtain ⟨l, hll, hp⟩ := pick_list (fun i (p : Got) => (W.cell? ((x.add (i * 2)).add 0) = some (.int .i64 p.2.1) ∧ W.cell? ((x.add (i * 2)).add 1) = some p.1) ∧ Q p) len h
  refine ⟨l, ⟨?_, some x, cap, by rw [List.length_map, hll], by rw [List.length_map]; omega, hm, (fun h => by cases h), ?_⟩, ?_⟩
  · intro cs hcs
    obtain ⟨p, _, rfl⟩ := List.mem_map.1 hcs
    rfl
  · intro hne
    have h0 : 0 < l.length := List.length_pos_iff.2 (by intro q; rw [q] at hne; simp at hne)
    obtain ⟨b, off, spot⟩ := x
    have hc := (hp 0 _ (List.getElem?_eq_getElem h0)).1.1
    have hspot : spot = none := by simpa [Addr.add] using World.cell?_spot hc
    subst hspot
    refine ⟨b, off, rfl, fun j cs hj i u hi => ?_⟩
    rw [List.getElem?_map] at hj
    cases hq : l[j]? with
    | none => rw [hq] at hj; simp at hj
    | some p =>
      rw [hq] at hj
      simp at hj
      subst hj
      match i, hi with
      | 0, hi =>
        simp [grow] at hi
        subst hi
        have := (hp j p hq).1.1
        simpa only [Addr.add_lit, Nat.add_zero] using this
      | 1, hi =>
        simp [grow] at hi
        subst hi
        have := (hp j p hq).1.2
        simpa only [Addr.add_lit] using this
      | i + 2, hi => simp [grow] at hi
  · intro p hpm
    obtain ⟨i, hi⟩ := List.getElem?_of_mem hpm
    exact (hp i p hi).2

theorem arg_recs {H : Type} {enc : TypeId × Value → H} {W : World} {a : Option Addr} {len cap : Nat} {d : DataW H} {ps : List MemPlace}
    (h : DataW.Trod enc Try.prog W 0 (fun _ => true) true 40 (.slice a len cap) d ps) (hw : ∀ n ∈ d.weights Try.prog 40, n ≤ reachBytes) : ∃ l : List Got, RecsR W (.slice a len cap) l ∧ ∀ x ∈ l, x.2.2.1.length ≤ 140737488351232 := by
  obtain ⟨fuel, hf⟩ := h
  rcases DataW.trod_slice Try.underlying40 hf with ⟨hcs, hx⟩ | ⟨x, len', cap', elems, rest, n, _, hcs, hx, hb, hl, hm, hlen, hel, _, _⟩
  · simp [Value.cells] at hcs
    obtain ⟨rfl, rfl, rfl⟩ := hcs
    exact ⟨[], RecsR.nil W, fun y hy => by cases hy⟩
  · simp [Value.cells] at hcs
    obtain ⟨rfl, rfl, rfl⟩ := hcs
    simp only [Prod.mk.injEq] at hx
    rw [Try.cells24] at hel
    obtain ⟨m, hr, hq⟩ := rows_rec (W := W) (x := x) hl hm (fun y => Octs W y.1 y.2.2.1 ∧ y.2.2.1.length ≤ 140737488351232) (by
      intro i hi
      have e := hel i hi
      have hi2 : elems[i]? = some (elems[i]'(by omega)) := List.getElem?_eq_getElem (by omega)
      rw [hi2] at e
      cases hc : W.cells? 0 (x.add (i * 2)) 2 with
      | none => rw [hc] at e; simp at e
      | some cs =>
        rw [hc] at e
        simp only [Option.bind_some] at e
        obtain ⟨_, hcl, hcells⟩ := World.cells?_some hc
        obtain ⟨y0, y1, n', hy, _, h0, h1⟩ := trod_struct2 Try.underlying24 e
        obtain ⟨c0, c1, rfl⟩ : ∃ c0 c1, cs = [c0, c1] := by
          match cs, hcl with
          | [c0, c1], _ => exact ⟨c0, c1, rfl⟩
        simp only [Try.cells3, Try.cells22, List.drop_zero, List.take_succ_cons, List.take_zero, List.drop_succ_cons] at h0 h1
        obtain ⟨kk, e0, _, _⟩ := DataW.trod_int Try.underlying3 h0
        obtain ⟨aa, cc, l, e1, ho, hwl, _⟩ := open_octs h1
        simp at e0 e1
        subst e0
        subst e1
        refine ⟨(.slice aa l.length cc, kk, l, 0), ⟨?_, ?_⟩, ho, hwl ?_⟩
        · exact hcells 0 (by decide)
        · exact hcells 1 (by decide)
        · intro q hq
          refine hw q ?_
          rw [hx.1]
          simp only [DataW.weights, Try.underlying40, List.mem_cons, List.mem_append]
          refine .inr (.inl (weightsAll_mem (List.mem_map.2 ⟨_, List.getElem_mem (by omega : i < elems.length), rfl⟩) q ?_))
          rw [hy]
          simp [DataW.weights, Try.underlying24, DataW.weightsEach]
          exact .inr hq)
    exact ⟨m, ⟨hr, fun y hy => (hq y hy).1⟩, fun y hy => (hq y hy).2⟩
end Go.Proofs.Ytgkgellmeeljbaa
