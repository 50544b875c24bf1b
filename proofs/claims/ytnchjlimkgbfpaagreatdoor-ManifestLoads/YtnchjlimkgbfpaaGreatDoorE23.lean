/- The texts V1, ELaw2, EArg, DRd, NWr, NChk, NPut, NEnc, in this order. -/
import Derived.Test.YtnchjlimkgbfpaaGreatDoorE22
import Derived.Lib.SmallJoins
import Derived.Test.YtnchjlimkgbfpaaGreatDoorE17
import Derived.Deep.Cut
import Derived.Test.YtnchjlimkgbfpaaGreatDoorRows
import Derived.Test.YtnchjlimkgbfpaaGreatDoorE16
import Derived.ProofKit
import Derived.OpenShut
import Derived.SizedLaws
import Derived.ChangeSame
import Derived.Deep.Strs
import Derived.Test.YtnchjlimkgbfpaaGreatDoorE11
import Derived.Test.YtnchjlimkgbfpaaGreatDoorE19
import Derived.Test.YtnchjlimkgbfpaaGreatDoorE09
import Derived.Test.YtnchjlimkgbfpaaGreatDoorE15
import Derived.Test.YtnchjlimkgbfpaaGreatDoorVPut
import Derived.Test.YtnchjlimkgbfpaaGreatDoorE07
import Derived.Deep.RegionHeld3
import Derived.Lib.AppendStr

namespace Go.Proofs.YtnchjlimkgbfpaaGreatDoor
open Go.RowKit Go.ChangeShapes Go.WideShapes
set_option linter.unusedVariables false
set_option maxRecDepth 20000
theorem Tryz.cells3 : Tryz.prog.cellsOf 3 = 1 := by kernel_rfl
theorem Tryz.cells9 : Tryz.prog.cellsOf 9 = 1 := by kernel_rfl
theorem Tryz.cells22 : Tryz.prog.cellsOf 22 = 1 := by kernel_rfl
theorem Tryz.cells23 : Tryz.prog.cellsOf 23 = 1 := by kernel_rfl
theorem Tryz.cells25 : Tryz.prog.cellsOf 25 = 5 := by kernel_rfl
theorem Tryz.cells111 : Tryz.prog.cellsOf 111 = 3 := by kernel_rfl
theorem Tryz.cells147 : Tryz.prog.cellsOf 147 = 2 := by kernel_rfl
theorem Tryz.bytes111 : Tryz.prog.bytesOf 111 = 40 := by kernel_rfl
theorem Tryz.bytes147 : Tryz.prog.bytesOf 147 = 24 := by kernel_rfl
theorem rows_any {A : Type} {n : Nat} (hn : 0 < n) {W : World} {x : Addr} {len cap : Nat} (hl : len ≤ cap) (hm : cap ≤ maxLen) (f : A → List Value) (hf : ∀ p, (f p).length = n) (Q : A → Prop)
    (h : ∀ i, i < len → ∃ p, W.cells? 0 (x.add (i * n)) n = some (f p) ∧ Q p) :
    ∃ l : List A, l.length = len ∧ Rws n W (.slice (some x) len cap) (l.map f) ∧ ∀ p ∈ l, Q p := by
  obtain ⟨l, hll, hp⟩ := pick_list (fun i p => W.cells? 0 (x.add (i * n)) n = some (f p) ∧ Q p) len h
  refine ⟨l, hll, ⟨?_, some x, cap, by rw [List.length_map, hll], by rw [List.length_map]; omega, hm, (fun h => by cases h), ?_⟩, ?_⟩
  · intro cs hcs
    obtain ⟨p, _, rfl⟩ := List.mem_map.1 hcs
    exact hf p
  · intro hne
    have h0 : 0 < l.length := List.length_pos_iff.2 (by intro q; rw [q] at hne; simp at hne)
    obtain ⟨b, off, spot⟩ := x
    obtain ⟨_, _, hc⟩ := World.cells?_some (hp 0 _ (List.getElem?_eq_getElem h0)).1
    have hc0 := hc 0 hn
    have hs : (f (l[0]))[0]? = some ((f (l[0]))[0]'(by rw [hf]; exact hn)) := List.getElem?_eq_getElem _
    have hc1 := hc0.trans hs
    have hspot : spot = none := by simpa [Addr.add] using World.cell?_spot hc1
    subst hspot
    refine ⟨b, off, rfl, fun j cs hj i u hi => ?_⟩
    rw [List.getElem?_map] at hj
    cases hq : l[j]? with
    | none => rw [hq] at hj; simp at hj
    | some p =>
      rw [hq] at hj
      simp at hj
      subst hj
      obtain ⟨_, _, hc⟩ := World.cells?_some (hp j p hq).1
      have hi2 : i < n := by
        have := (List.getElem?_eq_some_iff.1 hi).1
        rw [hf] at this
        exact this
      have := (hc i hi2).trans hi
      simpa only [Addr.add_lit] using this
  · intro p hpm
    obtain ⟨i, hi⟩ := List.getElem?_of_mem hpm
    exact (hp i p hi).2
theorem text_len {s : ByteArray} (h : s.data.toList.length ≤ reachBytes) : (nums s).length ≤ 140737488355328 := by
  rw [nums_length]
  have e : s.size = s.data.toList.length := by rw [Array.length_toList]; rfl
  rw [e]
  unfold reachBytes at h
  omega
set_option maxRecDepth 100000 in
theorem open_name {H : Type} {enc : TypeId × Value → H} {W : World} {fuel : Nat} {cs : List Value} {x : DataW H × List MemPlace} (h : DataW.trod enc Tryz.prog W 0 (fun _ => true) true fuel 147 cs = some x) (hw : ∀ n ∈ x.1.weights Tryz.prog 147, n ≤ reachBytes) :
    ∃ p : List Int × Int, cs = nrow p ∧ OctL p.1 ∧ p.1.length ≤ 140737488355328 ∧ In64 p.2 := by
  obtain ⟨y0, y1, n, rfl, hl, h0, h1⟩ := trod_struct2 Tryz.underlying147 h
  rw [Tryz.cells147] at hl
  match cs, hl with
  | [c0, c1], _ =>
    simp only [Tryz.cells9, Tryz.cells3, List.drop_zero, List.take_succ_cons, List.take_zero, List.drop_succ_cons] at h0 h1
    obtain ⟨s, e0, rfl, hs⟩ := DataW.trod_string Tryz.underlying9 h0
    obtain ⟨k, e1, rfl, hk⟩ := DataW.trod_int Tryz.underlying3 h1
    simp at e0 e1
    subst e0 e1
    refine ⟨(nums s, k), by simp [nrow, str_nums], nums_octet s, text_len (hw _ ?_), bounds_i64 hk⟩
    simp [DataW.weights, Tryz.underlying147, DataW.weightsEach]
set_option maxRecDepth 100000 in
theorem open_names {H : Type} {enc : TypeId × Value → H} {W : World} {fuel : Nat} {cs : List Value} {x : DataW H × List MemPlace} (h : DataW.trod enc Tryz.prog W 0 (fun _ => true) true fuel 23 cs = some x) (hw : ∀ n ∈ x.1.weights Tryz.prog 23, n ≤ reachBytes) :
    ∃ (v : Value) (l : List (List Int × Int)), cs = [v] ∧ NamesW W v l ∧ l.length * 24 ≤ 140737488351232 := by
  rcases DataW.trod_slice Tryz.underlying23 h with ⟨hcs, hx⟩ | ⟨x', len, cap, elems, rest, n, _, hcs, hx, hb, hl, hm, hlen, hel, _, _⟩
  · exact ⟨_, [], hcs, ⟨(fun p hp => by cases hp), Rws.nil 2 W⟩, by simp⟩
  · rw [Tryz.cells147] at hel
    have hwt := hw ((elems.length + rest.length) * 24) (by
      rw [hx]
      simp [DataW.weights, Tryz.underlying23, Tryz.bytes147])
    obtain ⟨l, hll, hr, hq⟩ := rows_any (n := 2) (by decide) (W := W) (x := x') hl hm nrow (fun _ => rfl) (fun p => OctL p.1 ∧ p.1.length ≤ 140737488355328 ∧ In64 p.2) (by
      intro i hi
      have e := hel i hi
      have hi2 : elems[i]? = some (elems[i]'(by omega)) := List.getElem?_eq_getElem (by omega)
      rw [hi2] at e
      cases hc : W.cells? 0 (x'.add (i * 2)) 2 with
      | none => rw [hc] at e; simp at e
      | some cs =>
        rw [hc] at e
        simp only [Option.bind_some] at e
        obtain ⟨p, rfl, hp⟩ := open_name e (by
          intro k hk
          refine hw k ?_
          rw [hx]
          simp only [DataW.weights, Tryz.underlying23, List.mem_cons, List.mem_append]
          exact .inr (.inl (weightsAll_mem (List.mem_map.2 ⟨_, List.getElem_mem (by omega : i < elems.length), rfl⟩) k hk)))
        exact ⟨p, rfl, hp⟩)
    refine ⟨_, l, hcs, ⟨hq, hr⟩, ?_⟩
    unfold reachBytes at hwt
    omega
set_option maxRecDepth 100000 in
theorem open_file {H : Type} {enc : TypeId × Value → H} {W : World} {fuel : Nat} {cs : List Value} {x : DataW H × List MemPlace} (h : DataW.trod enc Tryz.prog W 0 (fun _ => true) true fuel 111 cs = some x) (hw : ∀ n ∈ x.1.weights Tryz.prog 111, n ≤ reachBytes) :
    ∃ y : Value × Int × List Int × Int, cs = frow y ∧ Octs W y.1 y.2.2.1 ∧ y.2.2.1.length ≤ 140737488355328 ∧ In64 y.2.1 ∧ In64 y.2.2.2 := by
  obtain ⟨y0, y1, y2, n, rfl, hl, h0, h1, h2⟩ := Deep.trod_struct3 Tryz.underlying111 h
  rw [Tryz.cells111] at hl
  match cs, hl with
  | [c0, c1, c2], _ =>
    simp only [Tryz.cells88, Tryz.cells3, List.drop_zero, List.take_succ_cons, List.take_zero, List.drop_succ_cons] at h0 h1 h2
    obtain ⟨k, e0, rfl, hk⟩ := DataW.trod_int Tryz.underlying3 h0
    obtain ⟨z, e1, ho, hz⟩ := open_octs h1 (by
      intro m hm
      refine hw m ?_
      simp [DataW.weights, Tryz.underlying111, DataW.weightsEach]
      exact .inl hm)
    obtain ⟨j, e2, rfl, hj⟩ := DataW.trod_int Tryz.underlying3 h2
    simp at e0 e1 e2
    subst e0 e1 e2
    exact ⟨(z.1, k, z.2, j), rfl, ho, hz, bounds_i64 hk, bounds_i64 hj⟩
set_option maxRecDepth 100000 in
theorem open_files {H : Type} {enc : TypeId × Value → H} {W : World} {fuel : Nat} {cs : List Value} {x : DataW H × List MemPlace} (h : DataW.trod enc Tryz.prog W 0 (fun _ => true) true fuel 22 cs = some x) (hw : ∀ n ∈ x.1.weights Tryz.prog 22, n ≤ reachBytes) :
    ∃ (v : Value) (l : List (Int × List Int × Int)), cs = [v] ∧ FilesW W v l ∧ l.length * 40 ≤ 140737488351232 := by
  rcases DataW.trod_slice Tryz.underlying22 h with ⟨hcs, hx⟩ | ⟨x', len, cap, elems, rest, n, _, hcs, hx, hb, hl, hm, hlen, hel, _, _⟩
  · exact ⟨_, [], hcs, ⟨[], rfl, Rws.nil 3 W, (fun p hp => by cases hp)⟩, by simp⟩
  · rw [Tryz.cells111] at hel
    have hwt := hw ((elems.length + rest.length) * 40) (by
      rw [hx]
      simp [DataW.weights, Tryz.underlying22, Tryz.bytes111])
    obtain ⟨l, hll, hr, hq⟩ := rows_any (n := 3) (by decide) (W := W) (x := x') hl hm frow (fun _ => rfl) (fun y => Octs W y.1 y.2.2.1 ∧ y.2.2.1.length ≤ 140737488355328 ∧ In64 y.2.1 ∧ In64 y.2.2.2) (by
      intro i hi
      have e := hel i hi
      have hi2 : elems[i]? = some (elems[i]'(by omega)) := List.getElem?_eq_getElem (by omega)
      rw [hi2] at e
      cases hc : W.cells? 0 (x'.add (i * 3)) 3 with
      | none => rw [hc] at e; simp at e
      | some cs =>
        rw [hc] at e
        simp only [Option.bind_some] at e
        obtain ⟨p, rfl, hp⟩ := open_file e (by
          intro k hk
          refine hw k ?_
          rw [hx]
          simp only [DataW.weights, Tryz.underlying22, List.mem_cons, List.mem_append]
          exact .inr (.inl (weightsAll_mem (List.mem_map.2 ⟨_, List.getElem_mem (by omega : i < elems.length), rfl⟩) k hk)))
        exact ⟨p, rfl, hp⟩)
    refine ⟨_, l.map (·.2), hcs, ⟨l, rfl, hr, hq⟩, ?_⟩
    unfold reachBytes at hwt
    rw [List.length_map]
    omega
set_option maxRecDepth 100000 in
theorem arg_state {H : Type} {enc : TypeId × Value → H} {W : World} {base : Nat} {v : Value} {d : DataW H} {p : List MemPlace} (hv : Value.okWide Tryz.prog W .any base 25 v) (h : DataW.Trod enc Tryz.prog W 0 (fun _ => true) true 25 v d p) (hw : ∀ n ∈ d.weights Tryz.prog 25, n ≤ reachBytes) :
    ∃ s : St, StW W v s ∧ s.files.length * 40 ≤ 140737488351232 ∧ s.names.length * 24 ≤ 140737488351232 ∧ s.safe.length * 24 ≤ 140737488351232 := by
  obtain ⟨cs, rfl, hsz⟩ := okWide_struct Tryz.underlying25 hv
  rw [Tryz.cells25] at hsz
  obtain ⟨l⟩ := cs
  obtain ⟨fuel, hf⟩ := h
  obtain ⟨xs, n, _, hx, _, hxl, hfi⟩ := DataW.trod_struct Tryz.underlying25 hf
  match l, hsz with
  | [c0, c1, c2, c3, c4], _ =>
    match xs, hxl with
    | [y0, y1, y2, y3, y4], _ =>
      have f0 := hfi 0 _ rfl
      have f1 := hfi 1 _ rfl
      have f2 := hfi 2 _ rfl
      have f3 := hfi 3 _ rfl
      have f4 := hfi 4 _ rfl
      simp [Value.cells, Tryz.cells3, Tryz.cells22, Tryz.cells23] at f0 f1 f2 f3 f4
      simp only [Prod.mk.injEq] at hx
      obtain ⟨hx1, _⟩ := hx
      obtain ⟨k0, e0, rfl, hk0⟩ := DataW.trod_int Tryz.underlying3 f0
      obtain ⟨vf, lf, e1, hfl, hfn⟩ := open_files f1 (by
        intro m hm
        refine hw m ?_
        rw [hx1]
        simp [DataW.weights, Tryz.underlying25, DataW.weightsEach]
        exact .inl hm)
      obtain ⟨vn, ln, e2, hn, hnn⟩ := open_names f2 (by
        intro m hm
        refine hw m ?_
        rw [hx1]
        simp [DataW.weights, Tryz.underlying25, DataW.weightsEach]
        exact .inr (.inl hm))
      obtain ⟨vs, ls, e3, hs, hsn⟩ := open_names f3 (by
        intro m hm
        refine hw m ?_
        rw [hx1]
        simp [DataW.weights, Tryz.underlying25, DataW.weightsEach]
        exact .inr (.inr (.inl hm)))
      obtain ⟨k4, e4, rfl, hk4⟩ := DataW.trod_int Tryz.underlying3 f4
      simp at e0 e1 e2 e3 e4
      subst e0 e1 e2 e3 e4
      exact ⟨⟨k0, lf, ln, ls, k4⟩, ⟨_, _, _, rfl, hfl, hn, hs, bounds_i64 hk0, bounds_i64 hk4⟩, hfn, hnn, hsn⟩
end Go.Proofs.YtnchjlimkgbfpaaGreatDoor

namespace Go.Proofs.YtnchjlimkgbfpaaGreatDoor
open Go.RowKit
set_option linter.unusedVariables false
set_option maxRecDepth 20000
set_option linter.unusedSimpArgs false
set_option maxHeartbeats 2000000 in
set_option maxRecDepth 100000 in
theorem alike_self (l : List Me) (seq next : Int) (va ua : Option Addr) (vn vc un uc : Nat) (w : World) (hv : MetsR w (.slice va vn vc) l) (hu : MetsR w (.slice ua un uc) l) :
    Calls Tryz.prog 17 #[.agg #[.slice va vn vc, .int .i64 seq, .int .i64 next], .agg #[.slice ua un uc, .int .i64 seq, .int .i64 next]] w fun e w' => e = .returned (.int .i64 0) ∧ Hid (Below w.heap.size w w') := by
  obtain ⟨w0, hw0⟩ : ∃ w0, w0 = (w.alloc (.cells #[.slice va vn vc, .int .i64 seq, .int .i64 next] 39)).alloc (.cells #[.slice ua un uc, .int .i64 seq, .int .i64 next] 28) := ⟨_, rfl⟩
  have HW0 : Hid ((w.alloc (.cells #[.slice va vn vc, .int .i64 seq, .int .i64 next] 39)).alloc (.cells #[.slice ua un uc, .int .i64 seq, .int .i64 next] 28) = w0) := hw0.symm
  have B0 : Hid (w0.heap[w.heap.size]? = some (.cells #[.slice va vn vc, .int .i64 seq, .int .i64 next] 39)) := by rw [hw0]; exact blk_up (blk_new _ _) (up_alloc _ _)
  have B1 : Hid (w0.heap[w.heap.size + 1]? = some (.cells #[.slice ua un uc, .int .i64 seq, .int .i64 next] 28)) := by
    rw [hw0]
    have := blk_new (w.alloc (.cells #[.slice va vn vc, .int .i64 seq, .int .i64 next] 39)) (.cells #[.slice ua un uc, .int .i64 seq, .int .i64 next] 28)
    rw [show (w.alloc (.cells #[.slice va vn vc, .int .i64 seq, .int .i64 next] 39)).heap.size = w.heap.size + 1 by simp] at this
    exact this
  have U0 : Hid (Below w.heap.size w w0) := by rw [hw0]; exact up_al (up_alloc _ _) _
  have HC : Hid (Calls Tryz.prog 48 #[.slice va vn vc, .slice ua un uc] w0 fun e w' => e = .returned (.bool true) ∧ ∃ d, w' = w0.drewN d) := sameMetas_self l _ _ w0 (hv.up U0.out) (hu.up U0.out)
  have q0 := blk_cell B0.out 0 _ rfl
  have q1 := blk_cell B0.out 1 _ rfl
  have q2 := blk_cell B0.out 2 _ rfl
  have p0 := blk_cell B1.out 0 _ rfl
  have p1 := blk_cell B1.out 1 _ rfl
  have p2 := blk_cell B1.out 2 _ rfl
  clear hv hu hw0
  go_enter Tryz.func17, Tryz.ntmps17
  go_upto_region 1 with fail
  rw [HW0.out]
  go_wp2_with fail
  refine HC.out.mono ?_
  rintro e w1 ⟨rfl, d, rfl⟩
  go_wp2_with fail
  go_ret
  exact ⟨rfl, up_trans U0.out (up_drewN _ _)⟩
end Go.Proofs.YtnchjlimkgbfpaaGreatDoor

namespace Go.Proofs.YtnchjlimkgbfpaaGreatDoor
open Go.Joins Go.ChangeShapes Go.WideShapes Go.ChangeAt Go.RowKit
set_option linter.unusedVariables false
set_option maxRecDepth 20000
set_option linter.unusedSimpArgs false
theorem trod_struct5 {H : Type} {enc : TypeId × Value → H} {P : Program} {w : World} {base : Nat} {spare : Nat → Bool} {held : Bool} {t : TypeId} {f0 f1 f2 f3 f4 : Field} {fuel : Nat} {cs : List Value} {x : DataW H × List MemPlace} (ht : P.underlying t = some (.struct #[f0, f1, f2, f3, f4])) (h : DataW.trod enc P w base spare held fuel t cs = some x) :
    ∃ y0 y1 y2 y3 y4 n, x = (.agg [y0.1, y1.1, y2.1, y3.1, y4.1], y0.2 ++ (y1.2 ++ (y2.2 ++ (y3.2 ++ y4.2)))) ∧ cs.length = P.cellsOf t ∧ DataW.trod enc P w base spare held n f0.type ((cs.drop f0.offset).take (P.cellsOf f0.type)) = some y0 ∧
      DataW.trod enc P w base spare held n f1.type ((cs.drop f1.offset).take (P.cellsOf f1.type)) = some y1 ∧ DataW.trod enc P w base spare held n f2.type ((cs.drop f2.offset).take (P.cellsOf f2.type)) = some y2 ∧
      DataW.trod enc P w base spare held n f3.type ((cs.drop f3.offset).take (P.cellsOf f3.type)) = some y3 ∧ DataW.trod enc P w base spare held n f4.type ((cs.drop f4.offset).take (P.cellsOf f4.type)) = some y4 := by
  obtain ⟨xs, n, _, rfl, hl, hlen, hf⟩ := DataW.trod_struct ht h
  match xs, hlen with
  | [y0, y1, y2, y3, y4], _ => exact ⟨y0, y1, y2, y3, y4, n, by simp, hl, by simpa using hf 0 f0 rfl, by simpa using hf 1 f1 rfl, by simpa using hf 2 f2 rfl, by simpa using hf 3 f3 rfl, by simpa using hf 4 f4 rfl⟩
theorem Tryz.cells139 : Tryz.prog.cellsOf 139 = 5 := by kernel_rfl
theorem Tryz.cells26 : Tryz.prog.cellsOf 26 = 1 := by kernel_rfl
theorem Tryz.cells28 : Tryz.prog.cellsOf 28 = 3 := by kernel_rfl
theorem Tryz.bytes139 : Tryz.prog.bytesOf 139 = 56 := by kernel_rfl
theorem nil_octs (W : World) : Octs W (.slice none 0 0) [] := ⟨(fun x hx => by cases hx), .inl ⟨rfl, _, _, rfl, fun _ => rfl⟩⟩
set_option maxRecDepth 100000 in
theorem open_met {H : Type} {enc : TypeId × Value → H} {W : World} {fuel : Nat} {cs : List Value} {x : DataW H × List MemPlace} (h : DataW.trod enc Tryz.prog W 0 (fun _ => true) true fuel 139 cs = some x) :
    ∃ p : Me, cs = meRow p := by
  obtain ⟨y0, y1, y2, y3, y4, n, rfl, hl, h0, h1, h2, h3, h4⟩ := trod_struct5 Tryz.underlying139 h
  rw [Tryz.cells139] at hl
  match cs, hl with
  | [c0, c1, c2, c3, c4], _ =>
    simp only [Tryz.cells9, Tryz.cells3, List.drop_zero, List.take_succ_cons, List.take_zero, List.drop_succ_cons] at h0 h1 h2 h3 h4
    obtain ⟨a, e0, rfl, _⟩ := DataW.trod_int Tryz.underlying3 h0
    obtain ⟨b, e1, rfl, _⟩ := DataW.trod_int Tryz.underlying3 h1
    obtain ⟨c, e2, rfl, _⟩ := DataW.trod_int Tryz.underlying3 h2
    obtain ⟨s, e3, rfl, hs⟩ := DataW.trod_string Tryz.underlying9 h3
    obtain ⟨t, e4, rfl, ht⟩ := DataW.trod_string Tryz.underlying9 h4
    simp at e0 e1 e2 e3 e4
    subst e0 e1 e2 e3 e4
    exact ⟨⟨a, b, c, s, t⟩, rfl⟩
set_option maxRecDepth 100000 in
theorem open_mets {H : Type} {enc : TypeId × Value → H} {W : World} {fuel : Nat} {cs : List Value} {x : DataW H × List MemPlace} (h : DataW.trod enc Tryz.prog W 0 (fun _ => true) true fuel 26 cs = some x) (hw : ∀ n ∈ x.1.weights Tryz.prog 26, n ≤ reachBytes) :
    ∃ (v : Value) (l : List Me), cs = [v] ∧ MetsR W v l ∧ l.length * 56 ≤ 140737488351232 := by
  rcases DataW.trod_slice Tryz.underlying26 h with ⟨hcs, hx⟩ | ⟨x', len, cap, elems, rest, n, _, hcs, hx, hb, hl, hm, hlen, hel, _, _⟩
  · exact ⟨_, [], hcs, Rws.nil 5 W, by simp⟩
  · rw [Tryz.cells139] at hel
    have hwt := hw ((elems.length + rest.length) * 56) (by
      rw [hx]
      simp [DataW.weights, Tryz.underlying26, Tryz.bytes139])
    obtain ⟨l, hll, hr, hq⟩ := rows_any (n := 5) (by decide) (W := W) (x := x') hl hm meRow (fun _ => rfl) (fun p => True) (by
      intro i hi
      have e := hel i hi
      have hi2 : elems[i]? = some (elems[i]'(by omega)) := List.getElem?_eq_getElem (by omega)
      rw [hi2] at e
      cases hc : W.cells? 0 (x'.add (i * 5)) 5 with
      | none => rw [hc] at e; simp at e
      | some cs =>
        rw [hc] at e
        simp only [Option.bind_some] at e
        obtain ⟨p, rfl⟩ := open_met e
        exact ⟨p, rfl, trivial⟩)
    refine ⟨_, l, hcs, hr, ?_⟩
    unfold reachBytes at hwt
    omega
set_option maxRecDepth 100000 in
theorem arg_ver {H : Type} {enc : TypeId × Value → H} {W : World} {base : Nat} {v : Value} {d : DataW H} {p : List MemPlace} (hv : Value.okWide Tryz.prog W .any base 28 v) (h : DataW.Trod enc Tryz.prog W 0 (fun _ => true) true 28 v d p) (hw : ∀ n ∈ d.weights Tryz.prog 28, n ≤ reachBytes) :
    ∃ (a : Option Addr) (n c : Nat) (l : List Me) (s x : Int), v = .agg #[.slice a n c, .int .i64 s, .int .i64 x] ∧ MetsR W (.slice a n c) l ∧ l.length ≤ 4000000000000 := by
  obtain ⟨cs, rfl, hsz⟩ := okWide_struct Tryz.underlying28 hv
  obtain ⟨c0, c1, c2, rfl⟩ := array3 (hsz.trans Tryz.cells28)
  obtain ⟨fuel, hf⟩ := h
  obtain ⟨y0, y1, y2, n, hx, hl, h0, h1, h2⟩ := Go.Deep.trod_struct3 Tryz.underlying28 hf
  simp only [Prod.mk.injEq] at hx
  obtain ⟨rfl, rfl⟩ := hx
  simp only [Tryz.cells26, Tryz.cells3, Value.cells, List.drop_zero, List.take_succ_cons, List.take_zero, List.drop_succ_cons] at h0 h1 h2
  have hwE : ∀ q ∈ y0.1.weights Tryz.prog 26, q ≤ reachBytes := fun q hq => hw q (by
    simp [DataW.weights, Tryz.underlying28, DataW.weightsEach]
    exact .inl hq)
  obtain ⟨v0, l, e0, hE, hEb⟩ := open_mets h0 hwE
  obtain ⟨s, e1, _, _⟩ := DataW.trod_int Tryz.underlying3 h1
  obtain ⟨x, e2, _, _⟩ := DataW.trod_int Tryz.underlying3 h2
  simp at e0 e1 e2
  obtain ⟨a, c, rfl, _, _⟩ := hE.len
  subst e0 e1 e2
  exact ⟨a, _, c, l, s, x, rfl, hE, by omega⟩
end Go.Proofs.YtnchjlimkgbfpaaGreatDoor

namespace Go.Proofs.YtnchjlimkgbfpaaGreatDoor
open Go.RowKit
set_option linter.unusedVariables false
set_option maxRecDepth 20000
set_option linter.unusedSimpArgs false
theorem Octs.form {w : World} {a : Option Addr} {c : Nat} {l : List Int} (h : Octs w (.slice a l.length c) l) : (a = none ∧ l = [] ∧ c = 0) ∨ (∃ x, a = some x ∧ l = []) ∨ (∃ b off, a = some ⟨b, off, none⟩ ∧ l ≠ [] ∧ l.length ≤ c ∧ c ≤ maxLen) := by
  obtain ⟨hx, hv⟩ := h
  rcases hv with ⟨rfl, a', cap, e, ha⟩ | ⟨hne, b, off, cap, e, h1, h2, h3⟩
  · simp at e
    obtain ⟨rfl, rfl⟩ := e
    cases a with
    | none => exact .inl ⟨rfl, rfl, ha rfl⟩
    | some x => exact .inr (.inl ⟨x, rfl, rfl⟩)
  · simp at e
    obtain ⟨rfl, rfl⟩ := e
    exact .inr (.inr ⟨b, off, rfl, hne, h1, h2⟩)
theorem octs_from {W : World} {a : Option Addr} {c : Nat} {l : List Int} (h : Octs W (.slice a l.length c) l) (p : Nat) (hp : p ≤ l.length) : Octs W (.slice (if c = p then a else a.map (fun x => x.add p)) (l.length - p) (c - p)) (l.drop p) := by
  rcases h.form with ⟨rfl, rfl, rfl⟩ | ⟨x, rfl, rfl⟩ | ⟨b, off, rfl, hne, hc, hm⟩
  · simp at hp
    subst hp
    exact ⟨by simp, .inl ⟨by simp, _, _, rfl, fun _ => rfl⟩⟩
  · simp at hp
    subst hp
    refine ⟨by simp, .inl ⟨by simp, _, _, rfl, fun e => ?_⟩⟩
    split at e <;> simp at e
  · by_cases hcp : c = p
    · rw [if_pos hcp, List.drop_eq_nil_of_le (by omega), show l.length - p = 0 by omega]
      exact ⟨by simp, .inl ⟨rfl, _, _, rfl, fun e => by cases e⟩⟩
    · rw [if_neg hcp]
      simp only [Option.map_some, Addr.add_lit]
      exact h.back rfl p hp hc
def RDI (BB : Nat) (W : World) (R : Nat) (s : List Int × Int) : Prop := BB ≤ R ∧ ∃ a n c, W.heap[R]? = some (.cells #[.slice a n c, .int .i64 s.2] 258) ∧ Octs W (.slice a n c) s.1 ∧ ∀ b, (Value.slice a n c).ownBlock = some b → s.1 ≠ [] → b < BB
theorem own_from {a : Option Addr} {n c n' c' p : Nat} {b : Nat} (h : (Value.slice (if c = p then a else a.map (fun x => x.add p)) n' c').ownBlock = some b) : (Value.slice a n c).ownBlock = some b := by
  cases a with
  | none => split at h <;> simp [Value.ownBlock] at h
  | some x =>
    split at h
    · exact h
    · simp only [Option.map_some, Value.ownBlock, Option.some.injEq] at h ⊢
      rw [← h]
      unfold Addr.add
      split <;> rfl
theorem rd_kept {BB : Nat} {W W' : World} {R : Nat} {s : List Int × Int} (h : RDI BB W R s) (hb : Below W.heap.size W W') : RDI BB W' R s := by
  obtain ⟨h0, a, n, c, h1, h2, h3⟩ := h
  exact ⟨h0, a, n, c, blk_up h1 hb, h2.up hb, h3⟩
theorem rd_far {BB : Nat} {W W' : World} {R N : Nat} {s : List Int × Int} (h : RDI BB W R s) (hg : W.grownBy W' (some N)) (hN : BB ≤ N) (hne : R ≠ N) : RDI BB W' R s := by
  obtain ⟨h0, a, n, c, h1, h2, h3⟩ := h
  exact ⟨h0, a, n, c, blk_grown h1 hg (by intro q; injection q with q; exact hne q), h2.far hg (fun b hb hn q => by injection q with q; have := h3 b hb hn; omega), h3⟩
theorem grown_two {W x y : World} {R N : Nat} (h : W.grownBy x (some R)) (k : x.grownBy y (some N)) (hN : W.heap.size ≤ N) : W.grownBy y (some R) :=
  ⟨k.os.trans h.os, k.tape.trans h.tape, k.output.trans h.output, Nat.le_trans h.size k.size, fun i hi hne => (k.block i (Nat.lt_of_lt_of_le hi h.size) (by intro q; injection q with q; omega)).trans (h.block i hi hne)⟩
theorem grown_drewN (W : World) (d : Nat) (r : Option Nat) : W.grownBy (W.drewN d) r := grown_up (up_drewN W d) r
set_option maxRecDepth 100000 in
theorem refuse_any (BB R : Nat) (s : List Int × Int) (c : Int) (W : World) (h : RDI BB W R s) :
    Calls Tryz.prog 198 #[.pointer (some ⟨R, 0, none⟩), .int .i64 c] W fun e w' => e = .returned (.tuple #[]) ∧ Hid (RDI BB w' R (refS c s)) ∧ Hid (W.grownBy w' (some R)) := by
  obtain ⟨l, y⟩ := s
  obtain ⟨hBR, a, n, cc, hb, ho, hlo⟩ := h
  simp only at hb ho
  have B : Hid (W.heap[R]? = some (.cells #[.slice a n cc, .int .i64 y] 258)) := hb
  have r0 := blk_cell hb 0 _ rfl
  have r1 := blk_cell hb 1 _ rfl
  have f0 := blk_frozen hb 0
  have f1 := blk_frozen hb 1
  clear hb ho
  by_cases hy : y = 0
  · subst hy
    have HR : Hid (RDI BB ((W.setCell ⟨R, 1, none⟩ (.int .i64 c)).setCell ⟨R, 0, none⟩ (.slice none 0 0)) R (refS c (l, 0))) := ⟨hBR, none, 0, 0, blk_set (blk_set B.out 1 (.int .i64 c)) 0 (.slice none 0 0), nil_octs _, fun b h => by simp [Value.ownBlock] at h⟩
    have HG : Hid (W.grownBy ((W.setCell ⟨R, 1, none⟩ (.int .i64 c)).setCell ⟨R, 0, none⟩ (.slice none 0 0)) (some R)) := grown_trans (grown_set W ⟨R, 1, none⟩ _) (grown_set _ ⟨R, 0, none⟩ _)
    go_enter Tryz.func198, Tryz.ntmps198
    go_wp2_with fail
    go_end0
    exact ⟨rfl, HR, HG⟩
  · have hy' : (y == 0) = false := by simp [hy]
    have HR : Hid (RDI BB (W.setCell ⟨R, 0, none⟩ (.slice none 0 0)) R (refS c (l, y))) := by
      refine ⟨hBR, none, 0, 0, ?_, nil_octs _, fun b h => by simp [Value.ownBlock] at h⟩
      have := blk_set B.out 0 (.slice none 0 0)
      unfold refS
      simp only [hy, if_false]
      exact this
    have HG : Hid (W.grownBy (W.setCell ⟨R, 0, none⟩ (.slice none 0 0)) (some R)) := grown_set W ⟨R, 0, none⟩ _
    go_enter Tryz.func198, Tryz.ntmps198
    go_wp2_with fail
    go_end0
    exact ⟨rfl, HR, HG⟩
theorem codeS_cases (l : List Int) (hx : ∀ x ∈ l, 0 ≤ x ∧ x ≤ 255) : (∃ v j c, getOf l = (v, j, c) ∧ c ≠ 0 ∧ codeS l = c) ∨ (∃ m j : Nat, getOf l = ((m : Int), (j : Int), 0) ∧ 1099511627776 < m ∧ codeS l = 1) ∨ (∃ m j : Nat, getOf l = ((m : Int), (j : Int), 0) ∧ m ≤ 1099511627776 ∧ 1 ≤ j ∧ j ≤ l.length ∧ codeS l = 0) := by
  rcases get_says l hx with hg | hg | ⟨m, j, hg, n0, n1, j1, jl, ho, j9⟩
  · have := getRet_injE hg
    exact .inl ⟨_, _, _, this, by decide, by unfold codeS; rw [this]; rfl⟩
  · have := getRet_injE hg
    exact .inl ⟨_, _, _, this, by decide, by unfold codeS; rw [this]; rfl⟩
  · have e := getRet_injE hg
    obtain ⟨k, rfl⟩ : ∃ k : Nat, m = (k : Int) := ⟨m.toNat, by omega⟩
    by_cases q : 1099511627776 < k
    · refine .inr (.inl ⟨k, j, e, q, ?_⟩)
      unfold codeS
      rw [e]
      simp only [if_true]
      rw [if_pos (by omega)]
    · refine .inr (.inr ⟨k, j, e, by omega, j1, by omega, ?_⟩)
      unfold codeS
      rw [e]
      simp only [if_true]
      rw [if_neg (by omega)]
set_option maxHeartbeats 2000000 in
set_option maxRecDepth 100000 in
theorem number_any (BB R : Nat) (s : List Int × Int) (W : World) (h : RDI BB W R s) :
    Calls Tryz.prog 195 #[.pointer (some ⟨R, 0, none⟩)] W fun e w' => e = .returned (.int .i64 (numS s).1) ∧ Hid (RDI BB w' R (numS s).2) ∧ Hid (W.grownBy w' (some R)) := by
  have HRF : Hid (∀ c W', RDI BB W' R s → Calls Tryz.prog 198 #[.pointer (some ⟨R, 0, none⟩), .int .i64 c] W' fun e w' => e = .returned (.tuple #[]) ∧ Hid (RDI BB w' R (refS c s)) ∧ Hid (W'.grownBy w' (some R))) := fun c W' h' => refuse_any BB R s c W' h'
  have HI : Hid (RDI BB W R s) := h
  obtain ⟨l, y⟩ := s
  obtain ⟨hBR, a, n, cc, hb, ho, hlo⟩ := h
  simp only at hb ho
  have B : Hid (W.heap[R]? = some (.cells #[.slice a n cc, .int .i64 y] 258)) := hb
  have O : Hid (Octs W (.slice a n cc) l) := ho
  have hx := ho.1
  have HGT := hid (get_any l _ W ho)
  have r0 := blk_cell hb 0 _ rfl
  have r1 := blk_cell hb 1 _ rfl
  have HS : Hid (∀ c, codeS l = c → c ≠ 0 → numS (l, y) = (0, refS c (l, y))) := by
    intro c h1 h2
    unfold numS
    simp only [h1, h2, if_false]
  clear hb ho
  rcases codeS_cases l hx with ⟨v, j, c, hg, hc, hcs⟩ | ⟨m, j, hg, hm, hcs⟩ | ⟨m, j, hg, hm, hj1, hj, hcs⟩
  · have hN := HS.out c hcs hc
    rw [hN]
    have hc' : (c == 0) = false := by simp [hc]
    unfold getRet at HGT
    rw [hg] at HGT
    clear hg hcs hN HS hx hc
    go_enter Tryz.func195, Tryz.ntmps195
    go_wp2_with fail
    refine HGT.out.mono ?_
    rintro e w1 ⟨rfl, d, rfl⟩
    have HI1 : Hid (RDI BB (W.drewN d) R (l, y)) := rd_kept HI.out (up_drewN _ _)
    have HG1 := hid (grown_drewN W d (some R))
    generalize W.drewN d = w1 at *
    go_wp2_with fail
    refine (HRF.out _ _ HI1.out).mono ?_
    rintro e w2 ⟨rfl, I2, G2⟩
    go_wp2_with fail
    go_ret
    exact ⟨rfl, I2, grown_trans HG1.out G2.out⟩
  · have hN := HS.out 1 hcs (by decide)
    rw [hN]
    have hm' : (1099511627776 : Int) < (m : Int) := by omega
    unfold getRet at HGT
    rw [hg] at HGT
    clear hg hcs hN HS hx
    go_enter Tryz.func195, Tryz.ntmps195
    go_wp2_with fail
    refine HGT.out.mono ?_
    rintro e w1 ⟨rfl, d, rfl⟩
    have HI1 : Hid (RDI BB (W.drewN d) R (l, y)) := rd_kept HI.out (up_drewN _ _)
    have HG1 := hid (grown_drewN W d (some R))
    generalize W.drewN d = w1 at *
    go_wp2_with fail
    refine (HRF.out _ _ HI1.out).mono ?_
    rintro e w2 ⟨rfl, I2, G2⟩
    go_wp2_with fail
    go_ret
    exact ⟨rfl, I2, grown_trans HG1.out G2.out⟩
  · have hN : numS (l, y) = ((m : Int), (l.drop j, y)) := by
      unfold numS
      simp only [hcs, if_true, hg, Int.toNat_natCast]
    rw [hN]
    have hm' : ¬ (1099511627776 : Int) < (m : Int) := by omega
    have hwm : IntKind.i64.wrap (m : Int) = (m : Int) := by rw [IntKind.wrap_i64]; omega
    unfold getRet at HGT
    rw [hg] at HGT
    clear hg hcs hN HS hx
    obtain ⟨hn, hl1, hl2⟩ : n = l.length ∧ l.length ≤ cc ∧ cc ≤ maxLen := by
      rcases O.out.2 with ⟨h0, _⟩ | ⟨_, b, off, cap, e, h1, h2, _⟩
      · rw [h0] at hj; simp at hj; omega
      · simp only [Value.slice.injEq] at e
        exact ⟨e.2.1, by omega, by omega⟩
    subst hn
    have hjl : (j : Int) ≤ (l.length : Int) := by omega
    have hjc : (l.length : Int) ≤ (cc : Int) := by omega
    have hl63 : (cc : Int) ≤ 9223372036854775807 := by unfold maxLen at hl2; omega
    have HOF := hid (octs_from O.out j hj)
    obtain ⟨A, hA⟩ : ∃ A, (if cc = j then a else a.map (fun x => x.add j)) = A := ⟨_, rfl⟩
    have HLA : Hid (∀ b, (Value.slice A (l.length - j) (cc - j)).ownBlock = some b → l.drop j ≠ [] → b < BB) := by
      intro b hb hn
      rw [← hA] at hb
      exact hlo b (own_from hb) (by intro e; simp only at e; rw [e] at hn; simp at hn)
    have HBR : Hid (BB ≤ R) := hBR
    rw [hA] at HOF
    clear hl1 hl2 hlo hBR
    go_enter Tryz.func195, Tryz.ntmps195
    go_wp2_with fail
    refine HGT.out.mono ?_
    rintro e w1 ⟨rfl, d, rfl⟩
    have B1 := hid (blk_up B.out (up_drewN W d))
    have O1 := hid (HOF.out.up (up_drewN W d))
    have HG1 := hid (grown_drewN W d (some R))
    clear r0 r1
    generalize W.drewN d = w1 at *
    have r0 := blk_cell B1.out 0 _ rfl
    have r1 := blk_cell B1.out 1 _ rfl
    have f0 := blk_frozen B1.out 0
    have HFI : Hid (RDI BB (w1.setCell ⟨R, 0, none⟩ (.slice A (l.length - j) (cc - j))) R (l.drop j, y)) := ⟨HBR.out, A, _, _, blk_set B1.out 0 _, O1.out.far (grown_set w1 ⟨R, 0, none⟩ _) (fun b hb hn q => by injection q with q; have := HLA.out b hb hn; have := HBR.out; simp only at q; omega), HLA.out⟩
    have HGI : Hid (W.grownBy (w1.setCell ⟨R, 0, none⟩ (.slice A (l.length - j) (cc - j))) (some R)) := grown_trans HG1.out (grown_set w1 ⟨R, 0, none⟩ _)
    go_wp2_with fail
    go_ret
    exact ⟨rfl, HFI, HGI⟩
end Go.Proofs.YtnchjlimkgbfpaaGreatDoor

namespace Go.Proofs.YtnchjlimkgbfpaaGreatDoor
open Go.RowKit
set_option linter.unusedVariables false
set_option maxRecDepth 20000
set_option linter.unusedSimpArgs false
end Go.Proofs.YtnchjlimkgbfpaaGreatDoor

namespace Go.Proofs.YtnchjlimkgbfpaaGreatDoor
open Go.RowKit
set_option linter.unusedVariables false
set_option maxRecDepth 20000
set_option linter.unusedSimpArgs false
end Go.Proofs.YtnchjlimkgbfpaaGreatDoor

namespace Go.Proofs.YtnchjlimkgbfpaaGreatDoor
open Go.RowKit
set_option linter.unusedVariables false
set_option maxRecDepth 20000
set_option linter.unusedSimpArgs false
def brow (x : Int) : List Value := [.int .u8 x]
theorem brow_flat : ∀ l : List Int, (l.map brow).flatten = l.map (Value.int .u8)
  | [] => rfl
  | x :: r => by simp only [List.map_cons, List.flatten_cons, brow_flat r]; rfl
theorem brow_len (l : List Int) : ∀ cs ∈ l.map brow, cs.length = 1 := by
  intro cs hcs
  obtain ⟨x, _, rfl⟩ := List.mem_map.1 hcs
  rfl
theorem ownB_R {w : World} {base : Nat} {v : Value} {l : List Int} (h : OwnB w base v l) : OwnR w base 5 1 v (l.map brow) := by
  refine ⟨brow_len l, ?_⟩
  rw [brow_flat, List.length_map]
  exact h
theorem ownB_of {w : World} {base : Nat} {v : Value} {l : List Int} (h : OwnR w base 5 1 v (l.map brow)) : OwnB w base v l := by
  have := h.2
  rw [brow_flat, List.length_map] at this
  exact this
structure KeptB (base B : Nat) (w w' : World) : Prop where
  below : Below base w w'
  keep : ∀ i cs t fr, w.heap[i]? = some (.cells cs t fr) → t ≠ 5 → i ≠ B → w'.heap[i]? = some (.cells cs t fr)
theorem KeptB.refl (base B : Nat) (w : World) : KeptB base B w w := ⟨Below.refl _ _, fun _ _ _ _ h _ _ => h⟩
theorem below_low {B : Nat} {w x : World} (h : Below w.heap.size w x) (hB : B ≤ w.heap.size) : Below B w x := ⟨h.os, h.tape, h.output, h.size, fun i hi => h.block i (Nat.lt_of_lt_of_le hi hB)⟩
theorem KeptB.trans {base B : Nat} {w x y : World} (h : KeptB base B w x) (k : KeptB base B x y) : KeptB base B w y :=
  ⟨h.below.trans k.below, fun i cs t fr h1 h2 h3 => k.keep i cs t fr (h.keep i cs t fr h1 h2 h3) h2 h3⟩
theorem KeptB.up {base B : Nat} {w x y : World} (h : KeptB base B w x) (k : Below x.heap.size x y) (hb : base ≤ x.heap.size) : KeptB base B w y :=
  h.trans ⟨below_low k hb, fun i cs t fr h1 _ _ => blk_up h1 k⟩
theorem KeptB.app {base B : Nat} {w x y : World} {v : Value} {o : List Int} {bo : Obj} (h : KeptB base B w x) (ho : OwnB x base v o) (hb : x.heap[B]? = some bo) (g : x.grownBy y v.ownBlock) (hB : base ≤ B) : KeptB base B w y := by
  refine h.trans ⟨⟨g.os, g.tape, g.output, g.size, fun i hi => g.block i (Nat.lt_trans (Nat.lt_of_lt_of_le hi hB) (blk_lt hb)) (fun q => by have := (World.ownsRow.lt ho i q.symm).1; omega)⟩, fun i cs t fr h1 h2 h3 => blk_grown h1 g (fun q => ?_)⟩
  rcases own_blk_ne ho h1 (fun e => h2 e.symm) with k | k
  · rw [k] at q; cases q
  · exact k q.symm
theorem KeptB.set {base B : Nat} {w x : World} (h : KeptB base B w x) (i : Nat) (u : Value) (hB : base ≤ B) : KeptB base B w (x.setCell ⟨B, i, none⟩ u) := by
  have g := grown_set x ⟨B, i, none⟩ u
  refine h.trans ⟨⟨g.os, g.tape, g.output, g.size, fun j hj => Below.heap_setCell x ⟨B, i, none⟩ u j (fun e => by simp only at e; omega)⟩, fun j cs t fr h1 h2 h3 => blk_grown h1 g (fun q => by injection q with q; exact h3 q)⟩
def PutW (base B : Nat) (w : World) (o : List Int) : Prop := ∃ a n c, w.heap[B]? = some (.cells #[.slice a n c] 88) ∧ OwnB w base (.slice a n c) o
theorem PutW.up {base B : Nat} {w w' : World} {o : List Int} (h : PutW base B w o) (k : Below w.heap.size w w') : PutW base B w' o := by
  obtain ⟨a, n, c, h1, h2⟩ := h
  exact ⟨a, n, c, blk_up h1 k, own_up h2 k⟩
end Go.Proofs.YtnchjlimkgbfpaaGreatDoor

namespace Go.Proofs.YtnchjlimkgbfpaaGreatDoor
open Go.RowKit
set_option linter.unusedVariables false
set_option maxRecDepth 20000
set_option linter.unusedSimpArgs false
theorem PutW.lt {base B : Nat} {w : World} {o : List Int} (h : PutW base B w o) : B < w.heap.size := by
  obtain ⟨a, n, c, h1, _⟩ := h
  exact blk_lt h1
theorem PutW.le {base B : Nat} {w : World} {o : List Int} (h : PutW base B w o) (hb : base ≤ B) : base ≤ w.heap.size := Nat.le_of_lt (Nat.lt_of_le_of_lt hb h.lt)
theorem ownB_mono {w : World} {base base' : Nat} {v : Value} {l : List Int} (h : OwnB w base v l) (hb : base' ≤ base) : OwnB w base' v l := ownB_of ((ownB_R h).mono hb)
end Go.Proofs.YtnchjlimkgbfpaaGreatDoor
