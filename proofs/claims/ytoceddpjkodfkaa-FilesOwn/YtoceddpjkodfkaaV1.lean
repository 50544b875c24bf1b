/- States, acts and numbers that were handed in. -/
import Derived.Test.YtoceddpjkodfkaaS3
import Derived.Lib.SmallJoins
namespace Go.Proofs.Ytoceddpjkodfkaa
open Go.RowKit Go.ChangeShapes Go.WideShapes
set_option linter.unusedVariables false

theorem Try.cells3 : Try.prog.cellsOf 3 = 1 := by kernel_rfl
theorem Try.cells9 : Try.prog.cellsOf 9 = 1 := by kernel_rfl
theorem Try.cells22 : Try.prog.cellsOf 22 = 1 := by kernel_rfl
theorem Try.cells23 : Try.prog.cellsOf 23 = 1 := by kernel_rfl
theorem Try.cells25 : Try.prog.cellsOf 25 = 5 := by kernel_rfl
theorem Try.cells28 : Try.prog.cellsOf 28 = 4 := by kernel_rfl
theorem Try.cells86 : Try.prog.cellsOf 86 = 3 := by kernel_rfl
theorem Try.cells88 : Try.prog.cellsOf 88 = 2 := by kernel_rfl
theorem Try.bytes86 : Try.prog.bytesOf 86 = 40 := by kernel_rfl
theorem Try.bytes88 : Try.prog.bytesOf 88 = 24 := by kernel_rfl

theorem rows_any {A : Type} {n : Nat} (hn : 0 < n) {W : World} {x : Addr} {len cap : Nat} (hl : len ≤ cap) (hm : cap ≤ maxLen) (f : A → List Value) (hf : ∀ p, (f p).length = n) (Q : A → Prop)
    (h : ∀ i, i < len → ∃ p, W.cells? 0 (x.add (i * n)) n = some (f p) ∧ Q p) :
    ∃ l : List A, l.length = len ∧ Rws n W (.slice (some x) len cap) (l.map f) ∧ ∀ p ∈ l, Q p := by
  obtain ⟨l, hll, hp⟩ := pick_list (fun i p => W.cells? 0 (x.add (i * n)) n = some (f p) ∧ Q p) len h
  refine ⟨l, hll, ⟨?_, some x, cap, by rw [List.length_map, hll], by rw [List.length_map]; omega, hm, (fun h => by cases h), ?_⟩, ?_⟩
  · intro cs hcs
    obtain ⟨p, _, rfl⟩ := List.mem_map.1 hcs
    exact hf p
  · intro hne
    have h0 : 0 < l.length := List.length_pos_iff.2 (by intro q; rw [q] at hne; simp at hne)
    obtain ⟨b, off, spot⟩ := x
    obtain ⟨_, _, hc⟩ := World.cells?_some (hp 0 _ (List.getElem?_eq_getElem h0)).1
    have hc0 := hc 0 hn
    have hs : (f (l[0]))[0]? = some ((f (l[0]))[0]'(by rw [hf]; exact hn)) := List.getElem?_eq_getElem _
    have hc1 := hc0.trans hs
    have hspot : spot = none := by simpa [Addr.add] using World.cell?_spot hc1
    subst hspot
    refine ⟨b, off, rfl, fun j cs hj i u hi => ?_⟩
    rw [List.getElem?_map] at hj
    cases hq : l[j]? with
    | none => rw [hq] at hj; simp at hj
    | some p =>
      rw [hq] at hj
      simp at hj
      subst hj
      obtain ⟨_, _, hc⟩ := World.cells?_some (hp j p hq).1
      have hi2 : i < n := by
        have := (List.getElem?_eq_some_iff.1 hi).1
        rw [hf] at this
        exact this
      have := (hc i hi2).trans hi
      simpa only [Addr.add_lit] using this
  · intro p hpm
    obtain ⟨i, hi⟩ := List.getElem?_of_mem hpm
    exact (hp i p hi).2

theorem text_len {s : ByteArray} (h : s.data.toList.length ≤ reachBytes) : (nums s).length ≤ 140737488355328 := by
  rw [nums_length]
  have e : s.size = s.data.toList.length := by rw [Array.length_toList]; rfl
  rw [e]
  unfold reachBytes at h
  omega

set_option maxRecDepth 100000 in
theorem open_name {H : Type} {enc : TypeId × Value → H} {W : World} {fuel : Nat} {cs : List Value} {x : DataW H × List MemPlace} (h : DataW.trod enc Try.prog W 0 (fun _ => true) true fuel 88 cs = some x) (hw : ∀ n ∈ x.1.weights Try.prog 88, n ≤ reachBytes) :
    ∃ p : List Int × Int, cs = nrow p ∧ OctL p.1 ∧ p.1.length ≤ 140737488355328 ∧ In64 p.2 := by
  obtain ⟨y0, y1, n, rfl, hl, h0, h1⟩ := trod_struct2 Try.underlying88 h
  rw [Try.cells88] at hl
  match cs, hl with
  | [c0, c1], _ =>
    simp only [Try.cells9, Try.cells3, List.drop_zero, List.take_succ_cons, List.take_zero, List.drop_succ_cons] at h0 h1
    obtain ⟨s, e0, rfl, hs⟩ := DataW.trod_string Try.underlying9 h0
    obtain ⟨k, e1, rfl, hk⟩ := DataW.trod_int Try.underlying3 h1
    simp at e0 e1
    subst e0 e1
    refine ⟨(nums s, k), by simp [nrow, str_nums], nums_octet s, text_len (hw _ ?_), bounds_i64 hk⟩
    simp [DataW.weights, Try.underlying88, DataW.weightsEach]

set_option maxRecDepth 100000 in
theorem open_names {H : Type} {enc : TypeId × Value → H} {W : World} {fuel : Nat} {cs : List Value} {x : DataW H × List MemPlace} (h : DataW.trod enc Try.prog W 0 (fun _ => true) true fuel 23 cs = some x) (hw : ∀ n ∈ x.1.weights Try.prog 23, n ≤ reachBytes) :
    ∃ (v : Value) (l : List (List Int × Int)), cs = [v] ∧ NamesW W v l ∧ l.length * 24 ≤ 140737488351232 := by
  rcases DataW.trod_slice Try.underlying23 h with ⟨hcs, hx⟩ | ⟨x', len, cap, elems, rest, n, _, hcs, hx, hb, hl, hm, hlen, hel, _, _⟩
  · exact ⟨_, [], hcs, ⟨(fun p hp => by cases hp), Rws.nil 2 W⟩, by simp⟩
  · rw [Try.cells88] at hel
    have hwt := hw ((elems.length + rest.length) * 24) (by
      rw [hx]
      simp [DataW.weights, Try.underlying23, Try.bytes88])
    obtain ⟨l, hll, hr, hq⟩ := rows_any (n := 2) (by decide) (W := W) (x := x') hl hm nrow (fun _ => rfl) (fun p => OctL p.1 ∧ p.1.length ≤ 140737488355328 ∧ In64 p.2) (by
      intro i hi
      have e := hel i hi
      have hi2 : elems[i]? = some (elems[i]'(by omega)) := List.getElem?_eq_getElem (by omega)
      rw [hi2] at e
      cases hc : W.cells? 0 (x'.add (i * 2)) 2 with
      | none => rw [hc] at e; simp at e
      | some cs =>
        rw [hc] at e
        simp only [Option.bind_some] at e
        obtain ⟨p, rfl, hp⟩ := open_name e (by
          intro k hk
          refine hw k ?_
          rw [hx]
          simp only [DataW.weights, Try.underlying23, List.mem_cons, List.mem_append]
          exact .inr (.inl (weightsAll_mem (List.mem_map.2 ⟨_, List.getElem_mem (by omega : i < elems.length), rfl⟩) k hk)))
        exact ⟨p, rfl, hp⟩)
    refine ⟨_, l, hcs, ⟨hq, hr⟩, ?_⟩
    unfold reachBytes at hwt
    omega

set_option maxRecDepth 100000 in
theorem open_file {H : Type} {enc : TypeId × Value → H} {W : World} {fuel : Nat} {cs : List Value} {x : DataW H × List MemPlace} (h : DataW.trod enc Try.prog W 0 (fun _ => true) true fuel 86 cs = some x) (hw : ∀ n ∈ x.1.weights Try.prog 86, n ≤ reachBytes) :
    ∃ y : Value × Int × List Int × Int, cs = frow y ∧ Octs W y.1 y.2.2.1 ∧ y.2.2.1.length ≤ 140737488355328 ∧ In64 y.2.1 ∧ In64 y.2.2.2 := by
  obtain ⟨y0, y1, y2, n, rfl, hl, h0, h1, h2⟩ := Deep.trod_struct3 Try.underlying86 h
  rw [Try.cells86] at hl
  match cs, hl with
  | [c0, c1, c2], _ =>
    simp only [Try.cells26, Try.cells3, List.drop_zero, List.take_succ_cons, List.take_zero, List.drop_succ_cons] at h0 h1 h2
    obtain ⟨k, e0, rfl, hk⟩ := DataW.trod_int Try.underlying3 h0
    obtain ⟨z, e1, ho, hz⟩ := open_octs h1 (by
      intro m hm
      refine hw m ?_
      simp [DataW.weights, Try.underlying86, DataW.weightsEach]
      exact .inl hm)
    obtain ⟨j, e2, rfl, hj⟩ := DataW.trod_int Try.underlying3 h2
    simp at e0 e1 e2
    subst e0 e1 e2
    exact ⟨(z.1, k, z.2, j), rfl, ho, hz, bounds_i64 hk, bounds_i64 hj⟩

set_option maxRecDepth 100000 in
theorem open_files {H : Type} {enc : TypeId × Value → H} {W : World} {fuel : Nat} {cs : List Value} {x : DataW H × List MemPlace} (h : DataW.trod enc Try.prog W 0 (fun _ => true) true fuel 22 cs = some x) (hw : ∀ n ∈ x.1.weights Try.prog 22, n ≤ reachBytes) :
    ∃ (v : Value) (l : List (Int × List Int × Int)), cs = [v] ∧ FilesW W v l ∧ l.length * 40 ≤ 140737488351232 := by
  rcases DataW.trod_slice Try.underlying22 h with ⟨hcs, hx⟩ | ⟨x', len, cap, elems, rest, n, _, hcs, hx, hb, hl, hm, hlen, hel, _, _⟩
  · exact ⟨_, [], hcs, ⟨[], rfl, Rws.nil 3 W, (fun p hp => by cases hp)⟩, by simp⟩
  · rw [Try.cells86] at hel
    have hwt := hw ((elems.length + rest.length) * 40) (by
      rw [hx]
      simp [DataW.weights, Try.underlying22, Try.bytes86])
    obtain ⟨l, hll, hr, hq⟩ := rows_any (n := 3) (by decide) (W := W) (x := x') hl hm frow (fun _ => rfl) (fun y => Octs W y.1 y.2.2.1 ∧ y.2.2.1.length ≤ 140737488355328 ∧ In64 y.2.1 ∧ In64 y.2.2.2) (by
      intro i hi
      have e := hel i hi
      have hi2 : elems[i]? = some (elems[i]'(by omega)) := List.getElem?_eq_getElem (by omega)
      rw [hi2] at e
      cases hc : W.cells? 0 (x'.add (i * 3)) 3 with
      | none => rw [hc] at e; simp at e
      | some cs =>
        rw [hc] at e
        simp only [Option.bind_some] at e
        obtain ⟨p, rfl, hp⟩ := open_file e (by
          intro k hk
          refine hw k ?_
          rw [hx]
          simp only [DataW.weights, Try.underlying22, List.mem_cons, List.mem_append]
          exact .inr (.inl (weightsAll_mem (List.mem_map.2 ⟨_, List.getElem_mem (by omega : i < elems.length), rfl⟩) k hk)))
        exact ⟨p, rfl, hp⟩)
    refine ⟨_, l.map (·.2), hcs, ⟨l, rfl, hr, hq⟩, ?_⟩
    unfold reachBytes at hwt
    rw [List.length_map]
    omega

set_option maxRecDepth 100000 in
/-- A state that was handed in. -/
theorem arg_state {H : Type} {enc : TypeId × Value → H} {W : World} {base : Nat} {v : Value} {d : DataW H} {p : List MemPlace} (hv : Value.okWide Try.prog W .any base 25 v) (h : DataW.Trod enc Try.prog W 0 (fun _ => true) true 25 v d p) (hw : ∀ n ∈ d.weights Try.prog 25, n ≤ reachBytes) :
    ∃ s : St, StW W v s ∧ s.files.length * 40 ≤ 140737488351232 ∧ s.names.length * 24 ≤ 140737488351232 ∧ s.safe.length * 24 ≤ 140737488351232 := by
  obtain ⟨cs, rfl, hsz⟩ := okWide_struct Try.underlying25 hv
  rw [Try.cells25] at hsz
  obtain ⟨l⟩ := cs
  obtain ⟨fuel, hf⟩ := h
  obtain ⟨xs, n, _, hx, _, hxl, hfi⟩ := DataW.trod_struct Try.underlying25 hf
  match l, hsz with
  | [c0, c1, c2, c3, c4], _ =>
    match xs, hxl with
    | [y0, y1, y2, y3, y4], _ =>
      have f0 := hfi 0 _ rfl
      have f1 := hfi 1 _ rfl
      have f2 := hfi 2 _ rfl
      have f3 := hfi 3 _ rfl
      have f4 := hfi 4 _ rfl
      simp [Value.cells, Try.cells3, Try.cells22, Try.cells23] at f0 f1 f2 f3 f4
      simp only [Prod.mk.injEq] at hx
      obtain ⟨hx1, _⟩ := hx
      obtain ⟨k0, e0, rfl, hk0⟩ := DataW.trod_int Try.underlying3 f0
      obtain ⟨vf, lf, e1, hfl, hfn⟩ := open_files f1 (by
        intro m hm
        refine hw m ?_
        rw [hx1]
        simp [DataW.weights, Try.underlying25, DataW.weightsEach]
        exact .inl hm)
      obtain ⟨vn, ln, e2, hn, hnn⟩ := open_names f2 (by
        intro m hm
        refine hw m ?_
        rw [hx1]
        simp [DataW.weights, Try.underlying25, DataW.weightsEach]
        exact .inr (.inl hm))
      obtain ⟨vs, ls, e3, hs, hsn⟩ := open_names f3 (by
        intro m hm
        refine hw m ?_
        rw [hx1]
        simp [DataW.weights, Try.underlying25, DataW.weightsEach]
        exact .inr (.inr (.inl hm)))
      obtain ⟨k4, e4, rfl, hk4⟩ := DataW.trod_int Try.underlying3 f4
      simp at e0 e1 e2 e3 e4
      subst e0 e1 e2 e3 e4
      exact ⟨⟨k0, lf, ln, ls, k4⟩, ⟨_, _, _, rfl, hfl, hn, hs, bounds_i64 hk0, bounds_i64 hk4⟩, hfn, hnn, hsn⟩

set_option maxRecDepth 100000 in
/-- Numbers that were handed in. -/
theorem arg_ints {H : Type} {enc : TypeId × Value → H} {W : World} {a : Option Addr} {len cap : Nat} {d : DataW H} {ps : List MemPlace}
    (h : DataW.Trod enc Try.prog W 0 (fun _ => true) true 29 (.slice a len cap) d ps) : ∃ l : List Int, IntsW W (.slice a len cap) l := by
  obtain ⟨fuel, hf⟩ := h
  rcases DataW.trod_slice Try.underlying29 hf with ⟨hcs, hx⟩ | ⟨x, len', cap', elems, rest, n, _, hcs, hx, hb, hl, hm, hlen, hel, _, _⟩
  · simp [Value.cells] at hcs
    obtain ⟨rfl, rfl, rfl⟩ := hcs
    exact ⟨[], (fun x hx => by cases hx), Rws.nil 1 W⟩
  · simp [Value.cells] at hcs
    obtain ⟨rfl, rfl, rfl⟩ := hcs
    rw [Try.cells3] at hel
    obtain ⟨m, hr, hq⟩ := rows_one (W := W) (x := x) hl hm (fun k : Int => Value.int .i64 k) (fun k => In64 k) (by
      intro i hi
      have e := hel i hi
      rw [Nat.mul_one] at e
      have hi2 : elems[i]? = some (elems[i]'(by omega)) := List.getElem?_eq_getElem (by omega)
      rw [hi2] at e
      cases hc : W.cells? 0 (x.add i) 1 with
      | none => rw [hc] at e; simp at e
      | some cs =>
        rw [hc] at e
        obtain ⟨b, h1, _, hb⟩ := DataW.trod_int Try.underlying3 e
        rw [h1] at hc
        exact ⟨b, cells_one hc, bounds_i64 hb⟩)
    exact ⟨m, hq, hr⟩

set_option maxRecDepth 100000 in
theorem open_act {H : Type} {enc : TypeId × Value → H} {W : World} {fuel : Nat} {cs : List Value} {x : DataW H × List MemPlace} (h : DataW.trod enc Try.prog W 0 (fun _ => true) true fuel 28 cs = some x) (hw : ∀ n ∈ x.1.weights Try.prog 28, n ≤ reachBytes) :
    ∃ y : ARow, cs = arow y ∧ Octs W y.1 y.2.data ∧ okAc y.2 := by
  obtain ⟨y0, y1, y2, y3, n, rfl, hl, h0, h1, h2, h3⟩ := Joins.trod_struct4 Try.underlying28 h
  rw [Try.cells28] at hl
  match cs, hl with
  | [c0, c1, c2, c3], _ =>
    simp only [Try.cells26, Try.cells9, Try.cells3, List.drop_zero, List.take_succ_cons, List.take_zero, List.drop_succ_cons] at h0 h1 h2 h3
    obtain ⟨k, e0, rfl, hk⟩ := DataW.trod_int Try.underlying3 h0
    obtain ⟨s, e1, rfl, hs⟩ := DataW.trod_string Try.underlying9 h1
    obtain ⟨t, e2, rfl, ht⟩ := DataW.trod_string Try.underlying9 h2
    obtain ⟨z, e3, ho, hz⟩ := open_octs h3 (by
      intro m hm
      refine hw m ?_
      simp [DataW.weights, Try.underlying28, DataW.weightsEach]
      exact .inr (.inr hm))
    simp at e0 e1 e2 e3
    subst e0 e1 e2 e3
    have l1 := text_len (s := s) (hw _ (by simp [DataW.weights, Try.underlying28, DataW.weightsEach]))
    have l2 := text_len (s := t) (hw _ (by simp [DataW.weights, Try.underlying28, DataW.weightsEach]))
    exact ⟨(z.1, ⟨k, nums s, nums t, z.2⟩), by simp [arow, str_nums], ho, bounds_i64 hk, nums_octet s, l1, nums_octet t, l2, hz⟩

set_option maxRecDepth 100000 in
/-- Acts that were handed in. -/
theorem arg_acts {H : Type} {enc : TypeId × Value → H} {W : World} {a : Option Addr} {len cap : Nat} {d : DataW H} {ps : List MemPlace}
    (h : DataW.Trod enc Try.prog W 0 (fun _ => true) true 60 (.slice a len cap) d ps) (hw : ∀ n ∈ d.weights Try.prog 60, n ≤ reachBytes) : ∃ l : List Ac, ActsW W (.slice a len cap) l := by
  obtain ⟨fuel, hf⟩ := h
  rcases DataW.trod_slice Try.underlying60 hf with ⟨hcs, hx⟩ | ⟨x, len', cap', elems, rest, n, _, hcs, hx, hb, hl, hm, hlen, hel, _, _⟩
  · simp [Value.cells] at hcs
    obtain ⟨rfl, rfl, rfl⟩ := hcs
    exact ⟨[], [], rfl, Rws.nil 4 W, (fun x hx => by cases hx)⟩
  · simp [Value.cells] at hcs
    obtain ⟨rfl, rfl, rfl⟩ := hcs
    simp only [Prod.mk.injEq] at hx
    rw [Try.cells28] at hel
    obtain ⟨m, _, hr, hq⟩ := rows_any (n := 4) (by decide) (W := W) (x := x) hl hm arow (fun _ => rfl) (fun y => Octs W y.1 y.2.data ∧ okAc y.2) (by
      intro i hi
      have e := hel i hi
      have hi2 : elems[i]? = some (elems[i]'(by omega)) := List.getElem?_eq_getElem (by omega)
      rw [hi2] at e
      cases hc : W.cells? 0 (x.add (i * 4)) 4 with
      | none => rw [hc] at e; simp at e
      | some cs =>
        rw [hc] at e
        simp only [Option.bind_some] at e
        obtain ⟨p, rfl, hp⟩ := open_act e (by
          intro k hk
          refine hw k ?_
          rw [hx.1]
          simp only [DataW.weights, Try.underlying60, List.mem_cons, List.mem_append]
          exact .inr (.inl (weightsAll_mem (List.mem_map.2 ⟨_, List.getElem_mem (by omega : i < elems.length), rfl⟩) k hk)))
        exact ⟨p, rfl, hp⟩)
    exact ⟨m.map (·.2), m, rfl, hr, hq⟩

set_option maxRecDepth 100000 in
/-- An act that was handed in. -/
theorem arg_act {H : Type} {enc : TypeId × Value → H} {W : World} {base : Nat} {v : Value} {d : DataW H} {p : List MemPlace} (hv : Value.okWide Try.prog W .any base 28 v) (h : DataW.Trod enc Try.prog W 0 (fun _ => true) true 28 v d p) (hw : ∀ n ∈ d.weights Try.prog 28, n ≤ reachBytes) :
    ∃ a : Ac, AcW W v a := by
  obtain ⟨cs, rfl, hsz⟩ := okWide_struct Try.underlying28 hv
  obtain ⟨fuel, hf⟩ := h
  obtain ⟨y, e, ho, hk⟩ := open_act hf hw
  obtain ⟨l⟩ := cs
  simp [Value.cells] at e
  subst e
  exact ⟨y.2, y.1, rfl, ho, hk⟩
end Go.Proofs.Ytoceddpjkodfkaa
