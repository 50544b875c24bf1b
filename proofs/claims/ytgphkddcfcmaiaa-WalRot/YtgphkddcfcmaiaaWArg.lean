/- Batches, changes and octets that were handed in. -/
import Derived.Test.YtgphkddcfcmaiaaRows
import Derived.Test.YtgphkddcfcmaiaaWLeaf
import Derived.ProofKit
import Derived.OpenShut
import Derived.SizedLaws
import Derived.ChangeSame
import Derived.Deep.Strs
import Derived.Lib.SmallJoins
namespace Go.Proofs.Ytgphkddcfcmaiaa
open Go.ChangeShapes Go.WideShapes Go.ChangeAt Go.RowKit SumPlain
set_option linter.unusedVariables false

theorem Try.bytes5 : Try.prog.bytesOf 5 = 1 := by kernel_rfl

theorem arg_octs {W : World} {x : Addr} {len cap : Nat} {zs : List Int} (hl : len ≤ cap) (hm : cap ≤ maxLen) (hz : zs.length = cap)
    (hcell : ∀ i, i < zs.length → W.cell? (x.add i) = some (.int .u8 (zs.getD i 0))) (hwz : ∀ n ∈ zs, (Lit.int .u8 n).wf = true) : Octs W (.slice (some x) len cap) (zs.take len) := by
  have hlen : (zs.take len).length = len := by rw [List.length_take]; omega
  refine ⟨fun y hy => bounds_u8 (hwz y (List.mem_of_mem_take hy)), ?_⟩
  by_cases h0 : len = 0
  · subst h0
    exact .inl ⟨by simp, _, _, rfl, fun h => by cases h⟩
  · obtain ⟨b, off, spot⟩ := x
    have hc := hcell 0 (by omega)
    have hspot : spot = none := by simpa [Addr.add] using World.cell?_spot hc
    subst hspot
    refine .inr ⟨?_, b, off, cap, by rw [hlen], by omega, hm, fun j y hj => ?_⟩
    · intro e
      rw [e] at hlen
      simp at hlen
      omega
    · rw [List.getElem?_take] at hj
      split at hj
      · have hjl : j < zs.length := by omega
        have h := hcell j hjl
        rw [Addr.add_lit] at h
        rw [h]
        simp [List.getD, hj]
      · cases hj

theorem nil_octs (W : World) : Octs W (.slice none 0 0) [] := ⟨(fun x hx => by cases hx), .inl ⟨rfl, _, _, rfl, fun _ => rfl⟩⟩

theorem Try.cells5 : Try.prog.cellsOf 5 = 1 := by kernel_rfl

theorem open_octs {H : Type} {enc : TypeId × Value → H} {W : World} {fuel : Nat} {cs : List Value} {x : DataW H × List MemPlace} (h : DataW.trod enc Try.prog W 0 (fun _ => true) true fuel 25 cs = some x) :
    ∃ (a : Option Addr) (c : Nat) (l : List Int), cs = [.slice a l.length c] ∧ Octs W (.slice a l.length c) l ∧ ((∀ n ∈ x.1.weights Try.prog 25, n ≤ reachBytes) → l.length ≤ 140737488351232) := by
  rcases open_ints Try.underlying25 Try.underlying5 Try.cells5 h with ⟨hcs, _⟩ | ⟨a, l, c, zs, hcs, _, hl, hm, hz, hx, hcell, hwz⟩
  · exact ⟨none, 0, [], hcs, nil_octs W, fun _ => by simp⟩
  · have hz' : zs.length = c := by simpa using hz
    have hlen : (zs.take l).length = l := by rw [List.length_take]; omega
    refine ⟨some a, c, zs.take l, by rw [hlen]; exact hcs, by rw [hlen]; exact arg_octs hl hm hz' hcell hwz, ?_⟩
    intro hw
    rw [hx] at hw
    have := hw (((lits .u8 (zs.take l)).length + (lits .u8 (zs.drop l)).length) * 1) (by
      simp [DataW.weights, Try.underlying25, Try.bytes5]
      exact .inl rfl)
    simp only [lits, List.length_map, reachBytes] at this
    omega

theorem pick_list {A : Type} (P : Nat → A → Prop) : ∀ n, (∀ i, i < n → ∃ p, P i p) → ∃ l : List A, l.length = n ∧ ∀ i p, l[i]? = some p → P i p
  | 0, _ => ⟨[], rfl, fun i p h => by simp at h⟩
  | n + 1, h => by
    obtain ⟨l, hl, hp⟩ := pick_list P n (fun i hi => h i (by omega))
    obtain ⟨p, hq⟩ := h n (by omega)
    refine ⟨l ++ [p], by simp [hl], fun i q hi => ?_⟩
    by_cases c : i < l.length
    · rw [List.getElem?_append_left c] at hi
      exact hp i q hi
    · rw [List.getElem?_append_right (by omega)] at hi
      have e : i - l.length = 0 := by
        rcases Nat.eq_zero_or_pos (i - l.length) with h | h
        · exact h
        · rw [List.getElem?_eq_none (by simp; omega)] at hi; cases hi
      rw [e] at hi
      simp at hi
      subst hi
      obtain rfl : i = n := by omega
      exact hq

theorem weightsAll_mem {H : Type} {P : Program} {t : TypeId} : ∀ {l : List (DataW H)} {d : DataW H}, d ∈ l → ∀ n ∈ d.weights P t, n ∈ DataW.weightsAll P t l
  | x :: r, d, hd, n, hn => by
    simp only [DataW.weightsAll, List.mem_append]
    rcases List.mem_cons.1 hd with rfl | hd
    · exact .inl hn
    · exact .inr (weightsAll_mem hd n hn)


theorem rows_any {A : Type} {n : Nat} (hn : 0 < n) {W : World} {x : Addr} {len cap : Nat} (hl : len ≤ cap) (hm : cap ≤ maxLen) (f : A → List Value) (hf : ∀ p, (f p).length = n) (Q : A → Prop)
    (h : ∀ i, i < len → ∃ p, W.cells? 0 (x.add (i * n)) n = some (f p) ∧ Q p) :
    ∃ l : List A, l.length = len ∧ Rws n W (.slice (some x) len cap) (l.map f) ∧ ∀ p ∈ l, Q p := by
  obtain ⟨l, hll, hp⟩ := pick_list (fun i p => W.cells? 0 (x.add (i * n)) n = some (f p) ∧ Q p) len h
  refine ⟨l, hll, ⟨?_, some x, cap, by rw [List.length_map, hll], by rw [List.length_map]; omega, hm, (fun h => by cases h), ?_⟩, ?_⟩
  · intro cs hcs
    obtain ⟨p, _, rfl⟩ := List.mem_map.1 hcs
    exact hf p
  · intro hne
    have h0 : 0 < l.length := List.length_pos_iff.2 (by intro q; rw [q] at hne; simp at hne)
    obtain ⟨b, off, spot⟩ := x
    obtain ⟨_, _, hc⟩ := World.cells?_some (hp 0 _ (List.getElem?_eq_getElem h0)).1
    have hc0 := hc 0 hn
    have hs : (f (l[0]))[0]? = some ((f (l[0]))[0]'(by rw [hf]; exact hn)) := List.getElem?_eq_getElem _
    have hc1 := hc0.trans hs
    have hspot : spot = none := by simpa [Addr.add] using World.cell?_spot hc1
    subst hspot
    refine ⟨b, off, rfl, fun j cs hj i u hi => ?_⟩
    rw [List.getElem?_map] at hj
    cases hq : l[j]? with
    | none => rw [hq] at hj; simp at hj
    | some p =>
      rw [hq] at hj
      simp at hj
      subst hj
      obtain ⟨_, _, hc⟩ := World.cells?_some (hp j p hq).1
      have hi2 : i < n := by
        have := (List.getElem?_eq_some_iff.1 hi).1
        rw [hf] at this
        exact this
      have := (hc i hi2).trans hi
      simpa only [Addr.add_lit] using this
  · intro p hpm
    obtain ⟨i, hi⟩ := List.getElem?_of_mem hpm
    exact (hp i p hi).2

theorem Try.cells3 : Try.prog.cellsOf 3 = 1 := by kernel_rfl
theorem Try.cells4 : Try.prog.cellsOf 4 = 1 := by kernel_rfl
theorem Try.cells9 : Try.prog.cellsOf 9 = 1 := by kernel_rfl
theorem Try.cells22 : Try.prog.cellsOf 22 = 1 := by kernel_rfl
theorem Try.cells24 : Try.prog.cellsOf 24 = 2 := by kernel_rfl
theorem Try.cells67 : Try.prog.cellsOf 67 = 3 := by kernel_rfl
theorem Try.bytes67 : Try.prog.bytesOf 67 = 40 := by kernel_rfl

set_option maxRecDepth 100000 in
theorem open_chg {H : Type} {enc : TypeId × Value → H} {W : World} {fuel : Nat} {cs : List Value} {x : DataW H × List MemPlace} (h : DataW.trod enc Try.prog W 0 (fun _ => true) true fuel 67 cs = some x) :
    ∃ p : Chg, cs = crow p := by
  obtain ⟨y0, y1, y2, n, rfl, hl, h0, h1, h2⟩ := Deep.trod_struct3 Try.underlying67 h
  rw [Try.cells67] at hl
  match cs, hl with
  | [c0, c1, c2], _ =>
    simp only [Try.cells9, Try.cells4, List.drop_zero, List.take_succ_cons, List.take_zero, List.drop_succ_cons] at h0 h1 h2
    obtain ⟨s, e0, rfl, hs⟩ := DataW.trod_string Try.underlying9 h0
    obtain ⟨b, e1, rfl⟩ := DataW.trod_bool Try.underlying4 h1
    obtain ⟨t, e2, rfl, ht⟩ := DataW.trod_string Try.underlying9 h2
    simp at e0 e1 e2
    subst e0 e1 e2
    exact ⟨⟨s, b, t⟩, rfl⟩

set_option maxRecDepth 100000 in
theorem open_chgs {H : Type} {enc : TypeId × Value → H} {W : World} {fuel : Nat} {cs : List Value} {x : DataW H × List MemPlace} (h : DataW.trod enc Try.prog W 0 (fun _ => true) true fuel 22 cs = some x) (hw : ∀ n ∈ x.1.weights Try.prog 22, n ≤ reachBytes) :
    ∃ (v : Value) (l : List Chg), cs = [v] ∧ ChgsR W v l ∧ l.length * 40 ≤ 140737488351232 := by
  rcases DataW.trod_slice Try.underlying22 h with ⟨hcs, hx⟩ | ⟨x', len, cap, elems, rest, n, _, hcs, hx, hb, hl, hm, hlen, hel, _, _⟩
  · exact ⟨_, [], hcs, Rws.nil 3 W, by simp⟩
  · rw [Try.cells67] at hel
    have hwt := hw ((elems.length + rest.length) * 40) (by
      rw [hx]
      simp [DataW.weights, Try.underlying22, Try.bytes67])
    obtain ⟨l, hll, hr, hq⟩ := rows_any (n := 3) (by decide) (W := W) (x := x') hl hm crow (fun _ => rfl) (fun p => True) (by
      intro i hi
      have e := hel i hi
      have hi2 : elems[i]? = some (elems[i]'(by omega)) := List.getElem?_eq_getElem (by omega)
      rw [hi2] at e
      cases hc : W.cells? 0 (x'.add (i * 3)) 3 with
      | none => rw [hc] at e; simp at e
      | some cs =>
        rw [hc] at e
        simp only [Option.bind_some] at e
        obtain ⟨p, rfl⟩ := open_chg e
        exact ⟨p, rfl, trivial⟩)
    refine ⟨_, l, hcs, hr, ?_⟩
    unfold reachBytes at hwt
    omega

/-- A batch in memory: where its changes lie, its number, its changes. -/
def brow (y : Value × Int × List Chg) : List Value := [.int .i64 y.2.1, y.1]

set_option maxRecDepth 100000 in
theorem open_batch {H : Type} {enc : TypeId × Value → H} {W : World} {fuel : Nat} {cs : List Value} {x : DataW H × List MemPlace} (h : DataW.trod enc Try.prog W 0 (fun _ => true) true fuel 24 cs = some x) (hw : ∀ n ∈ x.1.weights Try.prog 24, n ≤ reachBytes) :
    ∃ y : Value × Int × List Chg, cs = brow y ∧ ChgsR W y.1 y.2.2 ∧ y.2.2.length * 40 ≤ 140737488351232 := by
  obtain ⟨y0, y1, n, rfl, hl, h0, h1⟩ := trod_struct2 Try.underlying24 h
  rw [Try.cells24] at hl
  match cs, hl with
  | [c0, c1], _ =>
    simp only [Try.cells3, Try.cells22, List.drop_zero, List.take_succ_cons, List.take_zero, List.drop_succ_cons] at h0 h1
    obtain ⟨k, e0, rfl, hk⟩ := DataW.trod_int Try.underlying3 h0
    obtain ⟨v, l, e1, hr, hb⟩ := open_chgs h1 (by
      intro m hm
      refine hw m ?_
      simp [DataW.weights, Try.underlying24, DataW.weightsEach]
      exact hm)
    simp at e0 e1
    subst e0 e1
    exact ⟨(c1, k, l), rfl, hr, hb⟩

set_option maxRecDepth 100000 in
/-- A batch that was handed in. -/
theorem arg_batch {H : Type} {enc : TypeId × Value → H} {W : World} {base : Nat} {v : Value} {d : DataW H} {p : List MemPlace} (hv : Value.okWide Try.prog W .any base 24 v) (h : DataW.Trod enc Try.prog W 0 (fun _ => true) true 24 v d p) (hw : ∀ n ∈ d.weights Try.prog 24, n ≤ reachBytes) :
    ∃ (s : Int) (a : Option Addr) (c : Nat) (cs : List Chg), v = .agg #[.int .i64 s, .slice a cs.length c] ∧ ChgsR W (.slice a cs.length c) cs ∧ cs.length * 40 ≤ 140737488351232 := by
  obtain ⟨cs, rfl, hsz⟩ := okWide_struct Try.underlying24 hv
  obtain ⟨fuel, hf⟩ := h
  obtain ⟨y, e, hr, hb⟩ := open_batch hf hw
  obtain ⟨l⟩ := cs
  simp [Value.cells] at e
  subst e
  obtain ⟨a, c, e2, _, _⟩ := hr.len
  rw [e2] at hr
  exact ⟨y.2.1, a, c, y.2.2, by simp [brow, e2], hr, hb⟩
end Go.Proofs.Ytgphkddcfcmaiaa
