/- The texts S3, V1, EArg, in this order. -/
import Derived.Test.YtnchjlimkgbfpaaGreatDoorZ14
import Derived.ProofKit
import Derived.OpenShut
import Derived.SizedLaws
import Derived.Lib.SmallJoins
import Derived.Test.YtnchjlimkgbfpaaGreatDoorRows
import Derived.Test.YtnchjlimkgbfpaaGreatDoorZ34
import Derived.Test.YtnchjlimkgbfpaaGreatDoorZ21
import Derived.ChangeSame
import Derived.Deep.Strs

namespace Go.Proofs.YtnchjlimkgbfpaaGreatDoor
open Go.RowKit Go.ChangeShapes Go.WideShapes
set_option linter.unusedVariables false
set_option maxRecDepth 20000
theorem Tryz.cells88 : Tryz.prog.cellsOf 88 = 1 := by kernel_rfl
theorem Tryz.cells5 : Tryz.prog.cellsOf 5 = 1 := by kernel_rfl
theorem Tryz.bytes5 : Tryz.prog.bytesOf 5 = 1 := by kernel_rfl
theorem pick_list {A : Type} (P : Nat → A → Prop) : ∀ n, (∀ i, i < n → ∃ p, P i p) → ∃ l : List A, l.length = n ∧ ∀ i p, l[i]? = some p → P i p
  | 0, _ => ⟨[], rfl, fun i p h => by simp at h⟩
  | n + 1, h => by
    obtain ⟨l, hl, hp⟩ := pick_list P n (fun i hi => h i (by omega))
    obtain ⟨p, hq⟩ := h n (by omega)
    refine ⟨l ++ [p], by simp [hl], fun i q hi => ?_⟩
    by_cases c : i < l.length
    · rw [List.getElem?_append_left c] at hi
      exact hp i q hi
    · rw [List.getElem?_append_right (by omega)] at hi
      have e : i - l.length = 0 := by
        rcases Nat.eq_zero_or_pos (i - l.length) with h | h
        · exact h
        · rw [List.getElem?_eq_none (by simp; omega)] at hi; cases hi
      rw [e] at hi
      simp at hi
      subst hi
      obtain rfl : i = n := by omega
      exact hq
theorem weightsAll_mem {H : Type} {P : Program} {t : TypeId} : ∀ {l : List (DataW H)} {d : DataW H}, d ∈ l → ∀ n ∈ d.weights P t, n ∈ DataW.weightsAll P t l
  | x :: r, d, hd, n, hn => by
    simp only [DataW.weightsAll, List.mem_append]
    rcases List.mem_cons.1 hd with rfl | hd
    · exact .inl hn
    · exact .inr (weightsAll_mem hd n hn)
theorem arg_octs {W : World} {x : Addr} {len cap : Nat} {zs : List Int} (hl : len ≤ cap) (hm : cap ≤ maxLen) (hz : zs.length = cap)
    (hcell : ∀ i, i < zs.length → W.cell? (x.add i) = some (.int .u8 (zs.getD i 0))) (hwz : ∀ n ∈ zs, (Lit.int .u8 n).wf = true) : Octs W (.slice (some x) len cap) (zs.take len) := by
  have hlen : (zs.take len).length = len := by rw [List.length_take]; omega
  refine ⟨fun y hy => bounds_u8 (hwz y (List.mem_of_mem_take hy)), ?_⟩
  by_cases h0 : len = 0
  · subst h0
    exact .inl ⟨by simp, _, _, rfl, fun h => by cases h⟩
  · obtain ⟨b, off, spot⟩ := x
    have hc := hcell 0 (by omega)
    have hspot : spot = none := by simpa [Addr.add] using World.cell?_spot hc
    subst hspot
    refine .inr ⟨?_, b, off, cap, by rw [hlen], by omega, hm, fun j y hj => ?_⟩
    · intro e
      rw [e] at hlen
      simp at hlen
      omega
    · rw [List.getElem?_take] at hj
      split at hj
      · have hjl : j < zs.length := by omega
        have h := hcell j hjl
        rw [Addr.add_lit] at h
        rw [h]
        simp [List.getD, hj]
      · cases hj
theorem open_octs {H : Type} {enc : TypeId × Value → H} {W : World} {fuel : Nat} {cs : List Value} {x : DataW H × List MemPlace} (h : DataW.trod enc Tryz.prog W 0 (fun _ => true) true fuel 88 cs = some x) (hw : ∀ n ∈ x.1.weights Tryz.prog 88, n ≤ reachBytes) :
    ∃ y : Value × List Int, cs = [y.1] ∧ Octs W y.1 y.2 ∧ y.2.length ≤ 140737488355328 := by
  rcases open_ints Tryz.underlying88 Tryz.underlying5 Tryz.cells5 h with ⟨hcs, _⟩ | ⟨a, l, c, zs, hcs, _, hl, hm, hz, hx, hcell, hwz⟩
  · exact ⟨(.slice none 0 0, []), hcs, ⟨(fun x hx => by cases hx), .inl ⟨rfl, _, _, rfl, fun _ => rfl⟩⟩, by simp⟩
  · have hz' : zs.length = c := by simpa using hz
    refine ⟨(.slice (some a) l c, zs.take l), hcs, arg_octs hl hm hz' hcell hwz, ?_⟩
    rw [hx] at hw
    have := hw ((lits .u8 (zs.take l)).length + (lits .u8 (zs.drop l)).length * 1) (by
      simp [DataW.weights, Tryz.underlying88, Tryz.bytes5]
      exact .inl rfl)
    simp only [lits, List.length_map, reachBytes] at this
    show (zs.take l).length ≤ 140737488355328
    omega
end Go.Proofs.YtnchjlimkgbfpaaGreatDoor

namespace Go.Proofs.YtnchjlimkgbfpaaGreatDoor
open Go.RowKit Go.ChangeShapes Go.WideShapes
set_option linter.unusedVariables false
set_option maxRecDepth 20000
theorem Tryz.cells3 : Tryz.prog.cellsOf 3 = 1 := by kernel_rfl
theorem Tryz.cells9 : Tryz.prog.cellsOf 9 = 1 := by kernel_rfl
theorem Tryz.cells22 : Tryz.prog.cellsOf 22 = 1 := by kernel_rfl
theorem Tryz.cells23 : Tryz.prog.cellsOf 23 = 1 := by kernel_rfl
theorem Tryz.cells25 : Tryz.prog.cellsOf 25 = 5 := by kernel_rfl
theorem Tryz.cells111 : Tryz.prog.cellsOf 111 = 3 := by kernel_rfl
theorem Tryz.cells147 : Tryz.prog.cellsOf 147 = 2 := by kernel_rfl
theorem Tryz.bytes111 : Tryz.prog.bytesOf 111 = 40 := by kernel_rfl
theorem Tryz.bytes147 : Tryz.prog.bytesOf 147 = 24 := by kernel_rfl
theorem rows_any {A : Type} {n : Nat} (hn : 0 < n) {W : World} {x : Addr} {len cap : Nat} (hl : len ≤ cap) (hm : cap ≤ maxLen) (f : A → List Value) (hf : ∀ p, (f p).length = n) (Q : A → Prop)
    (h : ∀ i, i < len → ∃ p, W.cells? 0 (x.add (i * n)) n = some (f p) ∧ Q p) :
    ∃ l : List A, l.length = len ∧ Rws n W (.slice (some x) len cap) (l.map f) ∧ ∀ p ∈ l, Q p := by
  obtain ⟨l, hll, hp⟩ := pick_list (fun i p => W.cells? 0 (x.add (i * n)) n = some (f p) ∧ Q p) len h
  refine ⟨l, hll, ⟨?_, some x, cap, by rw [List.length_map, hll], by rw [List.length_map]; omega, hm, (fun h => by cases h), ?_⟩, ?_⟩
  · intro cs hcs
    obtain ⟨p, _, rfl⟩ := List.mem_map.1 hcs
    exact hf p
  · intro hne
    have h0 : 0 < l.length := List.length_pos_iff.2 (by intro q; rw [q] at hne; simp at hne)
    obtain ⟨b, off, spot⟩ := x
    obtain ⟨_, _, hc⟩ := World.cells?_some (hp 0 _ (List.getElem?_eq_getElem h0)).1
    have hc0 := hc 0 hn
    have hs : (f (l[0]))[0]? = some ((f (l[0]))[0]'(by rw [hf]; exact hn)) := List.getElem?_eq_getElem _
    have hc1 := hc0.trans hs
    have hspot : spot = none := by simpa [Addr.add] using World.cell?_spot hc1
    subst hspot
    refine ⟨b, off, rfl, fun j cs hj i u hi => ?_⟩
    rw [List.getElem?_map] at hj
    cases hq : l[j]? with
    | none => rw [hq] at hj; simp at hj
    | some p =>
      rw [hq] at hj
      simp at hj
      subst hj
      obtain ⟨_, _, hc⟩ := World.cells?_some (hp j p hq).1
      have hi2 : i < n := by
        have := (List.getElem?_eq_some_iff.1 hi).1
        rw [hf] at this
        exact this
      have := (hc i hi2).trans hi
      simpa only [Addr.add_lit] using this
  · intro p hpm
    obtain ⟨i, hi⟩ := List.getElem?_of_mem hpm
    exact (hp i p hi).2
theorem text_len {s : ByteArray} (h : s.data.toList.length ≤ reachBytes) : (nums s).length ≤ 140737488355328 := by
  rw [nums_length]
  have e : s.size = s.data.toList.length := by rw [Array.length_toList]; rfl
  rw [e]
  unfold reachBytes at h
  omega
set_option maxRecDepth 100000 in
theorem open_name {H : Type} {enc : TypeId × Value → H} {W : World} {fuel : Nat} {cs : List Value} {x : DataW H × List MemPlace} (h : DataW.trod enc Tryz.prog W 0 (fun _ => true) true fuel 147 cs = some x) (hw : ∀ n ∈ x.1.weights Tryz.prog 147, n ≤ reachBytes) :
    ∃ p : List Int × Int, cs = nrow p ∧ OctL p.1 ∧ p.1.length ≤ 140737488355328 ∧ In64 p.2 := by
  obtain ⟨y0, y1, n, rfl, hl, h0, h1⟩ := trod_struct2 Tryz.underlying147 h
  rw [Tryz.cells147] at hl
  match cs, hl with
  | [c0, c1], _ =>
    simp only [Tryz.cells9, Tryz.cells3, List.drop_zero, List.take_succ_cons, List.take_zero, List.drop_succ_cons] at h0 h1
    obtain ⟨s, e0, rfl, hs⟩ := DataW.trod_string Tryz.underlying9 h0
    obtain ⟨k, e1, rfl, hk⟩ := DataW.trod_int Tryz.underlying3 h1
    simp at e0 e1
    subst e0 e1
    refine ⟨(nums s, k), by simp [nrow, str_nums], nums_octet s, text_len (hw _ ?_), bounds_i64 hk⟩
    simp [DataW.weights, Tryz.underlying147, DataW.weightsEach]
set_option maxRecDepth 100000 in
theorem open_names {H : Type} {enc : TypeId × Value → H} {W : World} {fuel : Nat} {cs : List Value} {x : DataW H × List MemPlace} (h : DataW.trod enc Tryz.prog W 0 (fun _ => true) true fuel 23 cs = some x) (hw : ∀ n ∈ x.1.weights Tryz.prog 23, n ≤ reachBytes) :
    ∃ (v : Value) (l : List (List Int × Int)), cs = [v] ∧ NamesW W v l ∧ l.length * 24 ≤ 140737488351232 := by
  rcases DataW.trod_slice Tryz.underlying23 h with ⟨hcs, hx⟩ | ⟨x', len, cap, elems, rest, n, _, hcs, hx, hb, hl, hm, hlen, hel, _, _⟩
  · exact ⟨_, [], hcs, ⟨(fun p hp => by cases hp), Rws.nil 2 W⟩, by simp⟩
  · rw [Tryz.cells147] at hel
    have hwt := hw ((elems.length + rest.length) * 24) (by
      rw [hx]
      simp [DataW.weights, Tryz.underlying23, Tryz.bytes147])
    obtain ⟨l, hll, hr, hq⟩ := rows_any (n := 2) (by decide) (W := W) (x := x') hl hm nrow (fun _ => rfl) (fun p => OctL p.1 ∧ p.1.length ≤ 140737488355328 ∧ In64 p.2) (by
      intro i hi
      have e := hel i hi
      have hi2 : elems[i]? = some (elems[i]'(by omega)) := List.getElem?_eq_getElem (by omega)
      rw [hi2] at e
      cases hc : W.cells? 0 (x'.add (i * 2)) 2 with
      | none => rw [hc] at e; simp at e
      | some cs =>
        rw [hc] at e
        simp only [Option.bind_some] at e
        obtain ⟨p, rfl, hp⟩ := open_name e (by
          intro k hk
          refine hw k ?_
          rw [hx]
          simp only [DataW.weights, Tryz.underlying23, List.mem_cons, List.mem_append]
          exact .inr (.inl (weightsAll_mem (List.mem_map.2 ⟨_, List.getElem_mem (by omega : i < elems.length), rfl⟩) k hk)))
        exact ⟨p, rfl, hp⟩)
    refine ⟨_, l, hcs, ⟨hq, hr⟩, ?_⟩
    unfold reachBytes at hwt
    omega
set_option maxRecDepth 100000 in
theorem open_file {H : Type} {enc : TypeId × Value → H} {W : World} {fuel : Nat} {cs : List Value} {x : DataW H × List MemPlace} (h : DataW.trod enc Tryz.prog W 0 (fun _ => true) true fuel 111 cs = some x) (hw : ∀ n ∈ x.1.weights Tryz.prog 111, n ≤ reachBytes) :
    ∃ y : Value × Int × List Int × Int, cs = frow y ∧ Octs W y.1 y.2.2.1 ∧ y.2.2.1.length ≤ 140737488355328 ∧ In64 y.2.1 ∧ In64 y.2.2.2 := by
  obtain ⟨y0, y1, y2, n, rfl, hl, h0, h1, h2⟩ := Deep.trod_struct3 Tryz.underlying111 h
  rw [Tryz.cells111] at hl
  match cs, hl with
  | [c0, c1, c2], _ =>
    simp only [Tryz.cells88, Tryz.cells3, List.drop_zero, List.take_succ_cons, List.take_zero, List.drop_succ_cons] at h0 h1 h2
    obtain ⟨k, e0, rfl, hk⟩ := DataW.trod_int Tryz.underlying3 h0
    obtain ⟨z, e1, ho, hz⟩ := open_octs h1 (by
      intro m hm
      refine hw m ?_
      simp [DataW.weights, Tryz.underlying111, DataW.weightsEach]
      exact .inl hm)
    obtain ⟨j, e2, rfl, hj⟩ := DataW.trod_int Tryz.underlying3 h2
    simp at e0 e1 e2
    subst e0 e1 e2
    exact ⟨(z.1, k, z.2, j), rfl, ho, hz, bounds_i64 hk, bounds_i64 hj⟩
set_option maxRecDepth 100000 in
theorem open_files {H : Type} {enc : TypeId × Value → H} {W : World} {fuel : Nat} {cs : List Value} {x : DataW H × List MemPlace} (h : DataW.trod enc Tryz.prog W 0 (fun _ => true) true fuel 22 cs = some x) (hw : ∀ n ∈ x.1.weights Tryz.prog 22, n ≤ reachBytes) :
    ∃ (v : Value) (l : List (Int × List Int × Int)), cs = [v] ∧ FilesW W v l ∧ l.length * 40 ≤ 140737488351232 := by
  rcases DataW.trod_slice Tryz.underlying22 h with ⟨hcs, hx⟩ | ⟨x', len, cap, elems, rest, n, _, hcs, hx, hb, hl, hm, hlen, hel, _, _⟩
  · exact ⟨_, [], hcs, ⟨[], rfl, Rws.nil 3 W, (fun p hp => by cases hp)⟩, by simp⟩
  · rw [Tryz.cells111] at hel
    have hwt := hw ((elems.length + rest.length) * 40) (by
      rw [hx]
      simp [DataW.weights, Tryz.underlying22, Tryz.bytes111])
    obtain ⟨l, hll, hr, hq⟩ := rows_any (n := 3) (by decide) (W := W) (x := x') hl hm frow (fun _ => rfl) (fun y => Octs W y.1 y.2.2.1 ∧ y.2.2.1.length ≤ 140737488355328 ∧ In64 y.2.1 ∧ In64 y.2.2.2) (by
      intro i hi
      have e := hel i hi
      have hi2 : elems[i]? = some (elems[i]'(by omega)) := List.getElem?_eq_getElem (by omega)
      rw [hi2] at e
      cases hc : W.cells? 0 (x'.add (i * 3)) 3 with
      | none => rw [hc] at e; simp at e
      | some cs =>
        rw [hc] at e
        simp only [Option.bind_some] at e
        obtain ⟨p, rfl, hp⟩ := open_file e (by
          intro k hk
          refine hw k ?_
          rw [hx]
          simp only [DataW.weights, Tryz.underlying22, List.mem_cons, List.mem_append]
          exact .inr (.inl (weightsAll_mem (List.mem_map.2 ⟨_, List.getElem_mem (by omega : i < elems.length), rfl⟩) k hk)))
        exact ⟨p, rfl, hp⟩)
    refine ⟨_, l.map (·.2), hcs, ⟨l, rfl, hr, hq⟩, ?_⟩
    unfold reachBytes at hwt
    rw [List.length_map]
    omega
set_option maxRecDepth 100000 in
theorem arg_state {H : Type} {enc : TypeId × Value → H} {W : World} {base : Nat} {v : Value} {d : DataW H} {p : List MemPlace} (hv : Value.okWide Tryz.prog W .any base 25 v) (h : DataW.Trod enc Tryz.prog W 0 (fun _ => true) true 25 v d p) (hw : ∀ n ∈ d.weights Tryz.prog 25, n ≤ reachBytes) :
    ∃ s : St, StW W v s ∧ s.files.length * 40 ≤ 140737488351232 ∧ s.names.length * 24 ≤ 140737488351232 ∧ s.safe.length * 24 ≤ 140737488351232 := by
  obtain ⟨cs, rfl, hsz⟩ := okWide_struct Tryz.underlying25 hv
  rw [Tryz.cells25] at hsz
  obtain ⟨l⟩ := cs
  obtain ⟨fuel, hf⟩ := h
  obtain ⟨xs, n, _, hx, _, hxl, hfi⟩ := DataW.trod_struct Tryz.underlying25 hf
  match l, hsz with
  | [c0, c1, c2, c3, c4], _ =>
    match xs, hxl with
    | [y0, y1, y2, y3, y4], _ =>
      have f0 := hfi 0 _ rfl
      have f1 := hfi 1 _ rfl
      have f2 := hfi 2 _ rfl
      have f3 := hfi 3 _ rfl
      have f4 := hfi 4 _ rfl
      simp [Value.cells, Tryz.cells3, Tryz.cells22, Tryz.cells23] at f0 f1 f2 f3 f4
      simp only [Prod.mk.injEq] at hx
      obtain ⟨hx1, _⟩ := hx
      obtain ⟨k0, e0, rfl, hk0⟩ := DataW.trod_int Tryz.underlying3 f0
      obtain ⟨vf, lf, e1, hfl, hfn⟩ := open_files f1 (by
        intro m hm
        refine hw m ?_
        rw [hx1]
        simp [DataW.weights, Tryz.underlying25, DataW.weightsEach]
        exact .inl hm)
      obtain ⟨vn, ln, e2, hn, hnn⟩ := open_names f2 (by
        intro m hm
        refine hw m ?_
        rw [hx1]
        simp [DataW.weights, Tryz.underlying25, DataW.weightsEach]
        exact .inr (.inl hm))
      obtain ⟨vs, ls, e3, hs, hsn⟩ := open_names f3 (by
        intro m hm
        refine hw m ?_
        rw [hx1]
        simp [DataW.weights, Tryz.underlying25, DataW.weightsEach]
        exact .inr (.inr (.inl hm)))
      obtain ⟨k4, e4, rfl, hk4⟩ := DataW.trod_int Tryz.underlying3 f4
      simp at e0 e1 e2 e3 e4
      subst e0 e1 e2 e3 e4
      exact ⟨⟨k0, lf, ln, ls, k4⟩, ⟨_, _, _, rfl, hfl, hn, hs, bounds_i64 hk0, bounds_i64 hk4⟩, hfn, hnn, hsn⟩
end Go.Proofs.YtnchjlimkgbfpaaGreatDoor

namespace Go.Proofs.YtnchjlimkgbfpaaGreatDoor
open Go.Joins Go.ChangeShapes Go.WideShapes Go.ChangeAt Go.RowKit
set_option linter.unusedVariables false
set_option maxRecDepth 20000
set_option linter.unusedSimpArgs false
theorem trod_struct5 {H : Type} {enc : TypeId × Value → H} {P : Program} {w : World} {base : Nat} {spare : Nat → Bool} {held : Bool} {t : TypeId} {f0 f1 f2 f3 f4 : Field} {fuel : Nat} {cs : List Value} {x : DataW H × List MemPlace} (ht : P.underlying t = some (.struct #[f0, f1, f2, f3, f4])) (h : DataW.trod enc P w base spare held fuel t cs = some x) :
    ∃ y0 y1 y2 y3 y4 n, x = (.agg [y0.1, y1.1, y2.1, y3.1, y4.1], y0.2 ++ (y1.2 ++ (y2.2 ++ (y3.2 ++ y4.2)))) ∧ cs.length = P.cellsOf t ∧ DataW.trod enc P w base spare held n f0.type ((cs.drop f0.offset).take (P.cellsOf f0.type)) = some y0 ∧
      DataW.trod enc P w base spare held n f1.type ((cs.drop f1.offset).take (P.cellsOf f1.type)) = some y1 ∧ DataW.trod enc P w base spare held n f2.type ((cs.drop f2.offset).take (P.cellsOf f2.type)) = some y2 ∧
      DataW.trod enc P w base spare held n f3.type ((cs.drop f3.offset).take (P.cellsOf f3.type)) = some y3 ∧ DataW.trod enc P w base spare held n f4.type ((cs.drop f4.offset).take (P.cellsOf f4.type)) = some y4 := by
  obtain ⟨xs, n, _, rfl, hl, hlen, hf⟩ := DataW.trod_struct ht h
  match xs, hlen with
  | [y0, y1, y2, y3, y4], _ => exact ⟨y0, y1, y2, y3, y4, n, by simp, hl, by simpa using hf 0 f0 rfl, by simpa using hf 1 f1 rfl, by simpa using hf 2 f2 rfl, by simpa using hf 3 f3 rfl, by simpa using hf 4 f4 rfl⟩
theorem Tryz.cells139 : Tryz.prog.cellsOf 139 = 5 := by kernel_rfl
theorem Tryz.cells26 : Tryz.prog.cellsOf 26 = 1 := by kernel_rfl
theorem Tryz.cells29 : Tryz.prog.cellsOf 29 = 1 := by kernel_rfl
theorem Tryz.cells28 : Tryz.prog.cellsOf 28 = 3 := by kernel_rfl
theorem Tryz.cells31 : Tryz.prog.cellsOf 31 = 4 := by kernel_rfl
theorem Tryz.bytes3 : Tryz.prog.bytesOf 3 = 8 := by kernel_rfl
theorem Tryz.bytes139 : Tryz.prog.bytesOf 139 = 56 := by kernel_rfl
set_option maxRecDepth 100000 in
theorem open_met {H : Type} {enc : TypeId × Value → H} {W : World} {fuel : Nat} {cs : List Value} {x : DataW H × List MemPlace} (h : DataW.trod enc Tryz.prog W 0 (fun _ => true) true fuel 139 cs = some x) :
    ∃ p : Me, cs = meRow p := by
  obtain ⟨y0, y1, y2, y3, y4, n, rfl, hl, h0, h1, h2, h3, h4⟩ := trod_struct5 Tryz.underlying139 h
  rw [Tryz.cells139] at hl
  match cs, hl with
  | [c0, c1, c2, c3, c4], _ =>
    simp only [Tryz.cells9, Tryz.cells3, List.drop_zero, List.take_succ_cons, List.take_zero, List.drop_succ_cons] at h0 h1 h2 h3 h4
    obtain ⟨a, e0, rfl, _⟩ := DataW.trod_int Tryz.underlying3 h0
    obtain ⟨b, e1, rfl, _⟩ := DataW.trod_int Tryz.underlying3 h1
    obtain ⟨c, e2, rfl, _⟩ := DataW.trod_int Tryz.underlying3 h2
    obtain ⟨s, e3, rfl, hs⟩ := DataW.trod_string Tryz.underlying9 h3
    obtain ⟨t, e4, rfl, ht⟩ := DataW.trod_string Tryz.underlying9 h4
    simp at e0 e1 e2 e3 e4
    subst e0 e1 e2 e3 e4
    exact ⟨⟨a, b, c, s, t⟩, rfl⟩
set_option maxRecDepth 100000 in
theorem open_mets {H : Type} {enc : TypeId × Value → H} {W : World} {fuel : Nat} {cs : List Value} {x : DataW H × List MemPlace} (h : DataW.trod enc Tryz.prog W 0 (fun _ => true) true fuel 26 cs = some x) (hw : ∀ n ∈ x.1.weights Tryz.prog 26, n ≤ reachBytes) :
    ∃ (v : Value) (l : List Me), cs = [v] ∧ MetsR W v l ∧ l.length * 56 ≤ 140737488351232 := by
  rcases DataW.trod_slice Tryz.underlying26 h with ⟨hcs, hx⟩ | ⟨x', len, cap, elems, rest, n, _, hcs, hx, hb, hl, hm, hlen, hel, _, _⟩
  · exact ⟨_, [], hcs, Rws.nil 5 W, by simp⟩
  · rw [Tryz.cells139] at hel
    have hwt := hw ((elems.length + rest.length) * 56) (by
      rw [hx]
      simp [DataW.weights, Tryz.underlying26, Tryz.bytes139])
    obtain ⟨l, hll, hr, hq⟩ := rows_any (n := 5) (by decide) (W := W) (x := x') hl hm meRow (fun _ => rfl) (fun p => True) (by
      intro i hi
      have e := hel i hi
      have hi2 : elems[i]? = some (elems[i]'(by omega)) := List.getElem?_eq_getElem (by omega)
      rw [hi2] at e
      cases hc : W.cells? 0 (x'.add (i * 5)) 5 with
      | none => rw [hc] at e; simp at e
      | some cs =>
        rw [hc] at e
        simp only [Option.bind_some] at e
        obtain ⟨p, rfl⟩ := open_met e
        exact ⟨p, rfl, trivial⟩)
    refine ⟨_, l, hcs, hr, ?_⟩
    unfold reachBytes at hwt
    omega
set_option maxRecDepth 100000 in
theorem open_nums {H : Type} {enc : TypeId × Value → H} {W : World} {fuel : Nat} {cs : List Value} {x : DataW H × List MemPlace} (h : DataW.trod enc Tryz.prog W 0 (fun _ => true) true fuel 29 cs = some x) (hw : ∀ n ∈ x.1.weights Tryz.prog 29, n ≤ reachBytes) :
    ∃ (v : Value) (l : List Int), cs = [v] ∧ IntsR W v l ∧ l.length * 8 ≤ 140737488351232 ∧ ∀ i ∈ l, In64 i := by
  rcases DataW.trod_slice Tryz.underlying29 h with ⟨hcs, hx⟩ | ⟨x', len, cap, elems, rest, n, _, hcs, hx, hb, hl, hm, hlen, hel, _, _⟩
  · exact ⟨_, [], hcs, Rws.nil 1 W, by simp, by simp⟩
  · rw [Tryz.cells3] at hel
    have hwt := hw ((elems.length + rest.length) * 8) (by
      rw [hx]
      simp [DataW.weights, Tryz.underlying29, Tryz.bytes3])
    obtain ⟨l, hll, hr, hq⟩ := rows_any (n := 1) (by decide) (W := W) (x := x') hl hm irow (fun _ => rfl) (fun p => In64 p) (by
      intro i hi
      have e := hel i hi
      have hi2 : elems[i]? = some (elems[i]'(by omega)) := List.getElem?_eq_getElem (by omega)
      rw [hi2] at e
      cases hc : W.cells? 0 (x'.add (i * 1)) 1 with
      | none => rw [hc] at e; simp at e
      | some cs =>
        rw [hc] at e
        simp only [Option.bind_some] at e
        obtain ⟨a, e0, _, hwf⟩ := DataW.trod_int Tryz.underlying3 e
        subst e0
        exact ⟨a, rfl, bounds_i64 hwf⟩)
    refine ⟨_, l, hcs, hr, ?_, hq⟩
    unfold reachBytes at hwt
    omega
set_option maxRecDepth 100000 in
theorem arg_ver {H : Type} {enc : TypeId × Value → H} {W : World} {base : Nat} {v : Value} {d : DataW H} {p : List MemPlace} (hv : Value.okWide Tryz.prog W .any base 28 v) (h : DataW.Trod enc Tryz.prog W 0 (fun _ => true) true 28 v d p) (hw : ∀ n ∈ d.weights Tryz.prog 28, n ≤ reachBytes) :
    ∃ (a : Option Addr) (n c : Nat) (l : List Me) (s x : Int), v = .agg #[.slice a n c, .int .i64 s, .int .i64 x] ∧ MetsR W (.slice a n c) l ∧ l.length ≤ 4000000000000 := by
  obtain ⟨cs, rfl, hsz⟩ := okWide_struct Tryz.underlying28 hv
  obtain ⟨c0, c1, c2, rfl⟩ := array3 (hsz.trans Tryz.cells28)
  obtain ⟨fuel, hf⟩ := h
  obtain ⟨y0, y1, y2, n, hx, hl, h0, h1, h2⟩ := Go.Deep.trod_struct3 Tryz.underlying28 hf
  simp only [Prod.mk.injEq] at hx
  obtain ⟨rfl, rfl⟩ := hx
  simp only [Tryz.cells26, Tryz.cells3, Value.cells, List.drop_zero, List.take_succ_cons, List.take_zero, List.drop_succ_cons] at h0 h1 h2
  have hwE : ∀ q ∈ y0.1.weights Tryz.prog 26, q ≤ reachBytes := fun q hq => hw q (by
    simp [DataW.weights, Tryz.underlying28, DataW.weightsEach]
    exact .inl hq)
  obtain ⟨v0, l, e0, hE, hEb⟩ := open_mets h0 hwE
  obtain ⟨s, e1, _, _⟩ := DataW.trod_int Tryz.underlying3 h1
  obtain ⟨x, e2, _, _⟩ := DataW.trod_int Tryz.underlying3 h2
  simp at e0 e1 e2
  obtain ⟨a, c, rfl, _, _⟩ := hE.len
  subst e0 e1 e2
  exact ⟨a, _, c, l, s, x, rfl, hE, by omega⟩
set_option maxRecDepth 100000 in
theorem arg_edt {H : Type} {enc : TypeId × Value → H} {W : World} {base : Nat} {v : Value} {d : DataW H} {p : List MemPlace} (hv : Value.okWide Tryz.prog W .any base 31 v) (h : DataW.Trod enc Tryz.prog W 0 (fun _ => true) true 31 v d p) (hw : ∀ n ∈ d.weights Tryz.prog 31, n ≤ reachBytes) :
    ∃ (da : Option Addr) (dn dc : Nat) (is : List Int) (a : Option Addr) (n c : Nat) (l : List Me) (s x : Int), v = .agg #[.slice da dn dc, .slice a n c, .int .i64 s, .int .i64 x] ∧ IntsR W (.slice da dn dc) is ∧ (∀ i ∈ is, In64 i) ∧ is.length ≤ 17592186044416 ∧ MetsR W (.slice a n c) l ∧ l.length ≤ 4000000000000 := by
  obtain ⟨cs, rfl, hsz⟩ := okWide_struct Tryz.underlying31 hv
  obtain ⟨c0, c1, c2, c3, rfl⟩ := array4 (hsz.trans Tryz.cells31)
  obtain ⟨fuel, hf⟩ := h
  obtain ⟨y0, y1, y2, y3, n, hx, hl, h0, h1, h2, h3⟩ := trod_struct4 Tryz.underlying31 hf
  simp only [Prod.mk.injEq] at hx
  obtain ⟨rfl, rfl⟩ := hx
  simp only [Tryz.cells26, Tryz.cells29, Tryz.cells3, Value.cells, List.drop_zero, List.take_succ_cons, List.take_zero, List.drop_succ_cons] at h0 h1 h2 h3
  have hwD : ∀ q ∈ y0.1.weights Tryz.prog 29, q ≤ reachBytes := fun q hq => hw q (by
    simp [DataW.weights, Tryz.underlying31, DataW.weightsEach]
    exact .inl hq)
  have hwE : ∀ q ∈ y1.1.weights Tryz.prog 26, q ≤ reachBytes := fun q hq => hw q (by
    simp [DataW.weights, Tryz.underlying31, DataW.weightsEach]
    exact .inr (.inl hq))
  obtain ⟨u0, is, d0, hD, hDb, hDi⟩ := open_nums h0 hwD
  obtain ⟨v0, l, e0, hE, hEb⟩ := open_mets h1 hwE
  obtain ⟨s, e1, _, _⟩ := DataW.trod_int Tryz.underlying3 h2
  obtain ⟨x, e2, _, _⟩ := DataW.trod_int Tryz.underlying3 h3
  simp at d0 e0 e1 e2
  obtain ⟨da, dc, rfl, _, _⟩ := hD.len
  obtain ⟨a, c, rfl, _, _⟩ := hE.len
  subst d0 e0 e1 e2
  exact ⟨da, _, dc, is, a, _, c, l, s, x, rfl, hD, hDi, by omega, hE, by omega⟩
end Go.Proofs.YtnchjlimkgbfpaaGreatDoor
