
import Derived.Test.YthiegmhplnbdlaaGreatRows
import Derived.Test.YthiegmhplnbdlaaGreatG49
import Derived.ProofKit
import Derived.OpenShut
import Derived.SizedLaws
import Derived.ChangeSame
import Derived.Deep.Strs
import Derived.Lib.SmallJoins
namespace Go.Proofs.YthiegmhplnbdlaaGreat
open Go.ChangeShapes Go.WideShapes Go.ChangeAt Go.RowKit
set_option linter.unusedVariables false
theorem pick_list {A : Type} (P : Nat → A → Prop) : ∀ n, (∀ i, i < n → ∃ p, P i p) → ∃ l : List A, l.length = n ∧ ∀ i p, l[i]? = some p → P i p
  | 0, _ => ⟨[], rfl, fun i p h => by simp at h⟩
  | n + 1, h => by
    obtain ⟨l, hl, hp⟩ := pick_list P n (fun i hi => h i (by omega))
    obtain ⟨p, hq⟩ := h n (by omega)
    refine ⟨l ++ [p], by simp [hl], fun i q hi => ?_⟩
    by_cases c : i < l.length
    · rw [List.getElem?_append_left c] at hi
      exact hp i q hi
    · rw [List.getElem?_append_right (by omega)] at hi
      have e : i - l.length = 0 := by
        rcases Nat.eq_zero_or_pos (i - l.length) with h | h
        · exact h
        · rw [List.getElem?_eq_none (by simp; omega)] at hi; cases hi
      rw [e] at hi
      simp at hi
      subst hi
      obtain rfl : i = n := by omega
      exact hq
theorem weightsAll_mem {H : Type} {P : Program} {t : TypeId} : ∀ {l : List (DataW H)} {d : DataW H}, d ∈ l → ∀ n ∈ d.weights P t, n ∈ DataW.weightsAll P t l
  | x :: r, d, hd, n, hn => by
    simp only [DataW.weightsAll, List.mem_append]
    rcases List.mem_cons.1 hd with rfl | hd
    · exact .inl hn
    · exact .inr (weightsAll_mem hd n hn)
theorem rows_any {A : Type} {n : Nat} (hn : 0 < n) {W : World} {x : Addr} {len cap : Nat} (hl : len ≤ cap) (hm : cap ≤ maxLen) (f : A → List Value) (hf : ∀ p, (f p).length = n) (Q : A → Prop)
    (h : ∀ i, i < len → ∃ p, W.cells? 0 (x.add (i * n)) n = some (f p) ∧ Q p) :
    ∃ l : List A, l.length = len ∧ Rws n W (.slice (some x) len cap) (l.map f) ∧ ∀ p ∈ l, Q p := by
  obtain ⟨l, hll, hp⟩ := pick_list (fun i p => W.cells? 0 (x.add (i * n)) n = some (f p) ∧ Q p) len h
  refine ⟨l, hll, ⟨?_, some x, cap, by rw [List.length_map, hll], by rw [List.length_map]; omega, hm, (fun h => by cases h), ?_⟩, ?_⟩
  · intro cs hcs
    obtain ⟨p, _, rfl⟩ := List.mem_map.1 hcs
    exact hf p
  · intro hne
    have h0 : 0 < l.length := List.length_pos_iff.2 (by intro q; rw [q] at hne; simp at hne)
    obtain ⟨b, off, spot⟩ := x
    obtain ⟨_, _, hc⟩ := World.cells?_some (hp 0 _ (List.getElem?_eq_getElem h0)).1
    have hc0 := hc 0 hn
    have hs : (f (l[0]))[0]? = some ((f (l[0]))[0]'(by rw [hf]; exact hn)) := List.getElem?_eq_getElem _
    have hc1 := hc0.trans hs
    have hspot : spot = none := by simpa [Addr.add] using World.cell?_spot hc1
    subst hspot
    refine ⟨b, off, rfl, fun j cs hj i u hi => ?_⟩
    rw [List.getElem?_map] at hj
    cases hq : l[j]? with
    | none => rw [hq] at hj; simp at hj
    | some p =>
      rw [hq] at hj
      simp at hj
      subst hj
      obtain ⟨_, _, hc⟩ := World.cells?_some (hp j p hq).1
      have hi2 : i < n := by
        have := (List.getElem?_eq_some_iff.1 hi).1
        rw [hf] at this
        exact this
      have := (hc i hi2).trans hi
      simpa only [Addr.add_lit] using this
  · intro p hpm
    obtain ⟨i, hi⟩ := List.getElem?_of_mem hpm
    exact (hp i p hi).2
theorem Tryz.cells4 : Tryz.prog.cellsOf 4 = 1 := by kernel_rfl
theorem Tryz.cells9 : Tryz.prog.cellsOf 9 = 1 := by kernel_rfl
theorem Tryz.cells26 : Tryz.prog.cellsOf 26 = 1 := by kernel_rfl
theorem Tryz.bytes26 : Tryz.prog.bytesOf 26 = 24 := by kernel_rfl
theorem Tryz.cells46 : Tryz.prog.cellsOf 46 = 1 := by kernel_rfl
theorem Tryz.bytes46 : Tryz.prog.bytesOf 46 = 8 := by kernel_rfl
theorem Tryz.cells75 : Tryz.prog.cellsOf 75 = 3 := by kernel_rfl
theorem Tryz.bytes75 : Tryz.prog.bytesOf 75 = 40 := by kernel_rfl
set_option maxRecDepth 100000 in
theorem open_chg {H : Type} {enc : TypeId × Value → H} {W : World} {fuel : Nat} {cs : List Value} {x : DataW H × List MemPlace} (h : DataW.trod enc Tryz.prog W 0 (fun _ => true) true fuel 75 cs = some x) :
    ∃ p : Chg, cs = crow p := by
  obtain ⟨y0, y1, y2, n, rfl, hl, h0, h1, h2⟩ := Deep.trod_struct3 Tryz.underlying75 h
  rw [Tryz.cells75] at hl
  match cs, hl with
  | [c0, c1, c2], _ =>
    simp only [Tryz.cells9, Tryz.cells4, List.drop_zero, List.take_succ_cons, List.take_zero, List.drop_succ_cons] at h0 h1 h2
    obtain ⟨s, e0, rfl, hs⟩ := DataW.trod_string Tryz.underlying9 h0
    obtain ⟨b, e1, rfl⟩ := DataW.trod_bool Tryz.underlying4 h1
    obtain ⟨t, e2, rfl, ht⟩ := DataW.trod_string Tryz.underlying9 h2
    simp at e0 e1 e2
    subst e0 e1 e2
    exact ⟨⟨s, b, t⟩, rfl⟩
set_option maxRecDepth 100000 in
theorem open_chgs {H : Type} {enc : TypeId × Value → H} {W : World} {fuel : Nat} {cs : List Value} {x : DataW H × List MemPlace} (h : DataW.trod enc Tryz.prog W 0 (fun _ => true) true fuel 26 cs = some x) (hw : ∀ n ∈ x.1.weights Tryz.prog 26, n ≤ reachBytes) :
    ∃ (v : Value) (l : List Chg), cs = [v] ∧ ChgsR W v l ∧ l.length * 40 ≤ 140737488351232 := by
  rcases DataW.trod_slice Tryz.underlying26 h with ⟨hcs, hx⟩ | ⟨x', len, cap, elems, rest, n, _, hcs, hx, hb, hl, hm, hlen, hel, _, _⟩
  · exact ⟨_, [], hcs, Rws.nil 3 W, by simp⟩
  · rw [Tryz.cells75] at hel
    have hwt := hw ((elems.length + rest.length) * 40) (by
      rw [hx]
      simp [DataW.weights, Tryz.underlying26, Tryz.bytes75])
    obtain ⟨l, hll, hr, hq⟩ := rows_any (n := 3) (by decide) (W := W) (x := x') hl hm crow (fun _ => rfl) (fun p => True) (by
      intro i hi
      have e := hel i hi
      have hi2 : elems[i]? = some (elems[i]'(by omega)) := List.getElem?_eq_getElem (by omega)
      rw [hi2] at e
      cases hc : W.cells? 0 (x'.add (i * 3)) 3 with
      | none => rw [hc] at e; simp at e
      | some cs =>
        rw [hc] at e
        simp only [Option.bind_some] at e
        obtain ⟨p, rfl⟩ := open_chg e
        exact ⟨p, rfl, trivial⟩)
    refine ⟨_, l, hcs, hr, ?_⟩
    unfold reachBytes at hwt
    omega
theorem Rws.lst {w : World} {v : Value} {m : List (Value × List Chg)} (h : Rws 1 w v (m.map fun y => [y.1])) (he : ∀ y ∈ m, ChgsR w y.1 y.2) : LstR w v (m.map (·.2)) := by
  refine ⟨m.map (·.1), ?_, by simp, fun i u r hu hr => ?_⟩
  · rw [List.map_map]
    exact h
  · rw [List.getElem?_map] at hu hr
    cases hq : m[i]? with
    | none => rw [hq] at hu; simp at hu
    | some y =>
      rw [hq] at hu hr
      simp at hu hr
      subst hu hr
      exact he y (List.mem_of_getElem? hq)
theorem arg_lst {H : Type} {enc : TypeId × Value → H} {W : World} {a : Option Addr} {len cap : Nat} {d : DataW H} {ps : List MemPlace}
    (h : DataW.Trod enc Tryz.prog W 0 (fun _ => true) true 22 (.slice a len cap) d ps) (hw : ∀ n ∈ d.weights Tryz.prog 22, n ≤ reachBytes) : ∃ l : List (List Chg), LstR W (.slice a len cap) l ∧ l.length * 24 ≤ 140737488351232 := by
  obtain ⟨fuel, hf⟩ := h
  rcases DataW.trod_slice Tryz.underlying22 hf with ⟨hcs, hx⟩ | ⟨x, len', cap', elems, rest, n, _, hcs, hx, hb, hl, hm, hlen, hel, _, _⟩
  · simp [Value.cells] at hcs
    obtain ⟨rfl, rfl, rfl⟩ := hcs
    exact ⟨[], ⟨[], Rws.nil 1 W, rfl, fun i u r hu => by simp at hu⟩, by simp⟩
  · simp [Value.cells] at hcs
    obtain ⟨rfl, rfl, rfl⟩ := hcs
    simp only [Prod.mk.injEq] at hx
    rw [Tryz.cells26] at hel
    have hwt := hw ((elems.length + rest.length) * 24) (by
      rw [hx.1]
      simp [DataW.weights, Tryz.underlying22, Tryz.bytes26])
    obtain ⟨m, hml, hr, hq⟩ := rows_any (n := 1) (by decide) (W := W) (x := x) hl hm (fun y : Value × List Chg => [y.1]) (fun _ => rfl) (fun y => ChgsR W y.1 y.2) (by
      intro i hi
      have e := hel i hi
      have hi2 : elems[i]? = some (elems[i]'(by omega)) := List.getElem?_eq_getElem (by omega)
      rw [hi2] at e
      cases hc : W.cells? 0 (x.add (i * 1)) 1 with
      | none => rw [hc] at e; simp at e
      | some cs =>
        rw [hc] at e
        simp only [Option.bind_some] at e
        obtain ⟨v, l, h1, h2, h3⟩ := open_chgs e (by
          intro k hk
          refine hw k ?_
          rw [hx.1]
          simp only [DataW.weights, Tryz.underlying22, List.mem_cons, List.mem_append]
          exact .inr (.inl (weightsAll_mem (List.mem_map.2 ⟨_, List.getElem_mem _, rfl⟩) k hk)))
        subst h1
        exact ⟨(v, l), rfl, h2⟩)
    refine ⟨m.map (·.2), Rws.lst hr (fun y hy => hq y hy), ?_⟩
    rw [List.length_map, hml]
    unfold reachBytes at hwt
    omega
theorem arg_drw {H : Type} {enc : TypeId × Value → H} {W : World} {a : Option Addr} {len cap : Nat} {d : DataW H} {ps : List MemPlace}
    (h : DataW.Trod enc Tryz.prog W 0 (fun _ => true) true 23 (.slice a len cap) d ps) (hw : ∀ n ∈ d.weights Tryz.prog 23, n ≤ reachBytes) : ∃ l : List Nat, DrwR W (.slice a len cap) l ∧ l.length * 8 ≤ 140737488351232 := by
  obtain ⟨fuel, hf⟩ := h
  rcases DataW.trod_slice Tryz.underlying23 hf with ⟨hcs, hx⟩ | ⟨x, len', cap', elems, rest, n, _, hcs, hx, hb, hl, hm, hlen, hel, _, _⟩
  · simp [Value.cells] at hcs
    obtain ⟨rfl, rfl, rfl⟩ := hcs
    exact ⟨[], ⟨Rws.nil 1 W, by simp⟩, by simp⟩
  · simp [Value.cells] at hcs
    obtain ⟨rfl, rfl, rfl⟩ := hcs
    simp only [Prod.mk.injEq] at hx
    rw [Tryz.cells46] at hel
    have hwt := hw ((elems.length + rest.length) * 8) (by
      rw [hx.1]
      simp [DataW.weights, Tryz.underlying23, Tryz.bytes46])
    obtain ⟨m, hml, hr, hq⟩ := rows_any (n := 1) (by decide) (W := W) (x := x) hl hm urow (fun _ => rfl) (fun p => p < 18446744073709551616) (by
      intro i hi
      have e := hel i hi
      have hi2 : elems[i]? = some (elems[i]'(by omega)) := List.getElem?_eq_getElem (by omega)
      rw [hi2] at e
      cases hc : W.cells? 0 (x.add (i * 1)) 1 with
      | none => rw [hc] at e; simp at e
      | some cs =>
        rw [hc] at e
        simp only [Option.bind_some] at e
        obtain ⟨a, e0, _, hwf⟩ := DataW.trod_int Tryz.underlying46 e
        subst e0
        have hb := bounds_u64 hwf
        refine ⟨a.toNat, ?_, by omega⟩
        unfold urow
        rw [Int.toNat_of_nonneg (by omega)])
    refine ⟨m, ⟨hr, hq⟩, ?_⟩
    unfold reachBytes at hwt
    omega
end Go.Proofs.YthiegmhplnbdlaaGreat
