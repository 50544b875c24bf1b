/- Versions, edits, octets that were handed in. -/
import Derived.Test.YtjdibpmckeifhaaRows
import Derived.Test.YtjdibpmckeifhaaELaw2
import Derived.Test.YtjdibpmckeifhaaAMap
import Derived.ProofKit
import Derived.OpenShut
import Derived.SizedLaws
import Derived.ChangeSame
import Derived.Deep.Strs
import Derived.Lib.SmallJoins
namespace Go.Proofs.Ytjdibpmckeifhaa
open Go.Joins Go.ChangeShapes Go.WideShapes Go.ChangeAt Go.RowKit
set_option linter.unusedVariables false
set_option linter.unusedSimpArgs false

theorem pick_list {A : Type} (P : Nat → A → Prop) : ∀ n, (∀ i, i < n → ∃ p, P i p) → ∃ l : List A, l.length = n ∧ ∀ i p, l[i]? = some p → P i p
  | 0, _ => ⟨[], rfl, fun i p h => by simp at h⟩
  | n + 1, h => by
    obtain ⟨l, hl, hp⟩ := pick_list P n (fun i hi => h i (by omega))
    obtain ⟨p, hq⟩ := h n (by omega)
    refine ⟨l ++ [p], by simp [hl], fun i q hi => ?_⟩
    by_cases c : i < l.length
    · rw [List.getElem?_append_left c] at hi
      exact hp i q hi
    · rw [List.getElem?_append_right (by omega)] at hi
      have e : i - l.length = 0 := by
        rcases Nat.eq_zero_or_pos (i - l.length) with h | h
        · exact h
        · rw [List.getElem?_eq_none (by simp; omega)] at hi; cases hi
      rw [e] at hi
      simp at hi
      subst hi
      obtain rfl : i = n := by omega
      exact hq

theorem weightsAll_mem {H : Type} {P : Program} {t : TypeId} : ∀ {l : List (DataW H)} {d : DataW H}, d ∈ l → ∀ n ∈ d.weights P t, n ∈ DataW.weightsAll P t l
  | x :: r, d, hd, n, hn => by
    simp only [DataW.weightsAll, List.mem_append]
    rcases List.mem_cons.1 hd with rfl | hd
    · exact .inl hn
    · exact .inr (weightsAll_mem hd n hn)


theorem rows_any {A : Type} {n : Nat} (hn : 0 < n) {W : World} {x : Addr} {len cap : Nat} (hl : len ≤ cap) (hm : cap ≤ maxLen) (f : A → List Value) (hf : ∀ p, (f p).length = n) (Q : A → Prop)
    (h : ∀ i, i < len → ∃ p, W.cells? 0 (x.add (i * n)) n = some (f p) ∧ Q p) :
    ∃ l : List A, l.length = len ∧ Rws n W (.slice (some x) len cap) (l.map f) ∧ ∀ p ∈ l, Q p := by
  obtain ⟨l, hll, hp⟩ := pick_list (fun i p => W.cells? 0 (x.add (i * n)) n = some (f p) ∧ Q p) len h
  refine ⟨l, hll, ⟨?_, some x, cap, by rw [List.length_map, hll], by rw [List.length_map]; omega, hm, (fun h => by cases h), ?_⟩, ?_⟩
  · intro cs hcs
    obtain ⟨p, _, rfl⟩ := List.mem_map.1 hcs
    exact hf p
  · intro hne
    have h0 : 0 < l.length := List.length_pos_iff.2 (by intro q; rw [q] at hne; simp at hne)
    obtain ⟨b, off, spot⟩ := x
    obtain ⟨_, _, hc⟩ := World.cells?_some (hp 0 _ (List.getElem?_eq_getElem h0)).1
    have hc0 := hc 0 hn
    have hs : (f (l[0]))[0]? = some ((f (l[0]))[0]'(by rw [hf]; exact hn)) := List.getElem?_eq_getElem _
    have hc1 := hc0.trans hs
    have hspot : spot = none := by simpa [Addr.add] using World.cell?_spot hc1
    subst hspot
    refine ⟨b, off, rfl, fun j cs hj i u hi => ?_⟩
    rw [List.getElem?_map] at hj
    cases hq : l[j]? with
    | none => rw [hq] at hj; simp at hj
    | some p =>
      rw [hq] at hj
      simp at hj
      subst hj
      obtain ⟨_, _, hc⟩ := World.cells?_some (hp j p hq).1
      have hi2 : i < n := by
        have := (List.getElem?_eq_some_iff.1 hi).1
        rw [hf] at this
        exact this
      have := (hc i hi2).trans hi
      simpa only [Addr.add_lit] using this
  · intro p hpm
    obtain ⟨i, hi⟩ := List.getElem?_of_mem hpm
    exact (hp i p hi).2

theorem cells_one {w : World} {base : Nat} {a : Addr} {x : Value} (h : w.cells? base a 1 = some [x]) : w.cell? a = some x := by
  obtain ⟨_, _, hc⟩ := World.cells?_some h
  have h0 := hc 0 (by decide)
  have e : a.add 0 = a := by cases a; simp [Addr.add]
  rw [e] at h0
  simpa using h0



theorem trod_struct5 {H : Type} {enc : TypeId × Value → H} {P : Program} {w : World} {base : Nat} {spare : Nat → Bool} {held : Bool} {t : TypeId} {f0 f1 f2 f3 f4 : Field} {fuel : Nat} {cs : List Value} {x : DataW H × List MemPlace} (ht : P.underlying t = some (.struct #[f0, f1, f2, f3, f4])) (h : DataW.trod enc P w base spare held fuel t cs = some x) :
    ∃ y0 y1 y2 y3 y4 n, x = (.agg [y0.1, y1.1, y2.1, y3.1, y4.1], y0.2 ++ (y1.2 ++ (y2.2 ++ (y3.2 ++ y4.2)))) ∧ cs.length = P.cellsOf t ∧ DataW.trod enc P w base spare held n f0.type ((cs.drop f0.offset).take (P.cellsOf f0.type)) = some y0 ∧
      DataW.trod enc P w base spare held n f1.type ((cs.drop f1.offset).take (P.cellsOf f1.type)) = some y1 ∧ DataW.trod enc P w base spare held n f2.type ((cs.drop f2.offset).take (P.cellsOf f2.type)) = some y2 ∧
      DataW.trod enc P w base spare held n f3.type ((cs.drop f3.offset).take (P.cellsOf f3.type)) = some y3 ∧ DataW.trod enc P w base spare held n f4.type ((cs.drop f4.offset).take (P.cellsOf f4.type)) = some y4 := by
  obtain ⟨xs, n, _, rfl, hl, hlen, hf⟩ := DataW.trod_struct ht h
  match xs, hlen with
  | [y0, y1, y2, y3, y4], _ => exact ⟨y0, y1, y2, y3, y4, n, by simp, hl, by simpa using hf 0 f0 rfl, by simpa using hf 1 f1 rfl, by simpa using hf 2 f2 rfl, by simpa using hf 3 f3 rfl, by simpa using hf 4 f4 rfl⟩

theorem Try.cells3 : Try.prog.cellsOf 3 = 1 := by kernel_rfl
theorem Try.cells5 : Try.prog.cellsOf 5 = 1 := by kernel_rfl
theorem Try.cells9 : Try.prog.cellsOf 9 = 1 := by kernel_rfl
theorem Try.cells52 : Try.prog.cellsOf 52 = 5 := by kernel_rfl
theorem Try.cells22 : Try.prog.cellsOf 22 = 1 := by kernel_rfl
theorem Try.cells29 : Try.prog.cellsOf 29 = 1 := by kernel_rfl
theorem Try.cells24 : Try.prog.cellsOf 24 = 3 := by kernel_rfl
theorem Try.bytes5 : Try.prog.bytesOf 5 = 1 := by kernel_rfl
theorem Try.bytes3 : Try.prog.bytesOf 3 = 8 := by kernel_rfl
theorem Try.bytes52 : Try.prog.bytesOf 52 = 56 := by kernel_rfl

theorem arg_octs {W : World} {x : Addr} {len cap : Nat} {zs : List Int} (hl : len ≤ cap) (hm : cap ≤ maxLen) (hz : zs.length = cap)
    (hcell : ∀ i, i < zs.length → W.cell? (x.add i) = some (.int .u8 (zs.getD i 0))) (hwz : ∀ n ∈ zs, (Lit.int .u8 n).wf = true) : Octs W (.slice (some x) len cap) (zs.take len) := by
  have hlen : (zs.take len).length = len := by rw [List.length_take]; omega
  refine ⟨fun y hy => bounds_u8 (hwz y (List.mem_of_mem_take hy)), ?_⟩
  by_cases h0 : len = 0
  · subst h0
    exact .inl ⟨by simp, _, _, rfl, fun h => by cases h⟩
  · obtain ⟨b, off, spot⟩ := x
    have hc := hcell 0 (by omega)
    have hspot : spot = none := by simpa [Addr.add] using World.cell?_spot hc
    subst hspot
    refine .inr ⟨?_, b, off, cap, by rw [hlen], by omega, hm, fun j y hj => ?_⟩
    · intro e
      rw [e] at hlen
      simp at hlen
      omega
    · rw [List.getElem?_take] at hj
      split at hj
      · have hjl : j < zs.length := by omega
        have h := hcell j hjl
        rw [Addr.add_lit] at h
        rw [h]
        simp [List.getD, hj]
      · cases hj

theorem nil_octs (W : World) : Octs W (.slice none 0 0) [] := ⟨(fun x hx => by cases hx), .inl ⟨rfl, _, _, rfl, fun _ => rfl⟩⟩

theorem bulk_pos {H : Type} (d : DataW H) : 1 ≤ Rows.uptoBulk d := by
  cases d with
  | lit l => cases l <;> simp [Rows.uptoBulk]
  | _ => simp [Rows.uptoBulk]

theorem bulk_len {H : Type} : ∀ (l : List (DataW H)), l.length ≤ Rows.uptoBulkAll l
  | [] => by simp [Rows.uptoBulkAll]
  | d :: r => by
    have h1 := bulk_pos d
    have h2 := bulk_len r
    simp only [Rows.uptoBulkAll, List.length_cons]
    omega

set_option maxRecDepth 100000 in
theorem open_met {H : Type} {enc : TypeId × Value → H} {W : World} {fuel : Nat} {cs : List Value} {x : DataW H × List MemPlace} (h : DataW.trod enc Try.prog W 0 (fun _ => true) true fuel 52 cs = some x) :
    ∃ p : Me, cs = meRow p := by
  obtain ⟨y0, y1, y2, y3, y4, n, rfl, hl, h0, h1, h2, h3, h4⟩ := trod_struct5 Try.underlying52 h
  rw [Try.cells52] at hl
  match cs, hl with
  | [c0, c1, c2, c3, c4], _ =>
    simp only [Try.cells9, Try.cells3, List.drop_zero, List.take_succ_cons, List.take_zero, List.drop_succ_cons] at h0 h1 h2 h3 h4
    obtain ⟨a, e0, rfl, _⟩ := DataW.trod_int Try.underlying3 h0
    obtain ⟨b, e1, rfl, _⟩ := DataW.trod_int Try.underlying3 h1
    obtain ⟨c, e2, rfl, _⟩ := DataW.trod_int Try.underlying3 h2
    obtain ⟨s, e3, rfl, hs⟩ := DataW.trod_string Try.underlying9 h3
    obtain ⟨t, e4, rfl, ht⟩ := DataW.trod_string Try.underlying9 h4
    simp at e0 e1 e2 e3 e4
    subst e0 e1 e2 e3 e4
    exact ⟨⟨a, b, c, s, t⟩, rfl⟩

set_option maxRecDepth 100000 in
theorem open_mets {H : Type} {enc : TypeId × Value → H} {W : World} {fuel : Nat} {cs : List Value} {x : DataW H × List MemPlace} (h : DataW.trod enc Try.prog W 0 (fun _ => true) true fuel 22 cs = some x) (hw : ∀ n ∈ x.1.weights Try.prog 22, n ≤ reachBytes) :
    ∃ (v : Value) (l : List Me), cs = [v] ∧ MetsR W v l ∧ l.length * 56 ≤ 140737488351232 := by
  rcases DataW.trod_slice Try.underlying22 h with ⟨hcs, hx⟩ | ⟨x', len, cap, elems, rest, n, _, hcs, hx, hb, hl, hm, hlen, hel, _, _⟩
  · exact ⟨_, [], hcs, Rws.nil 5 W, by simp⟩
  · rw [Try.cells52] at hel
    have hwt := hw ((elems.length + rest.length) * 56) (by
      rw [hx]
      simp [DataW.weights, Try.underlying22, Try.bytes52])
    obtain ⟨l, hll, hr, hq⟩ := rows_any (n := 5) (by decide) (W := W) (x := x') hl hm meRow (fun _ => rfl) (fun p => True) (by
      intro i hi
      have e := hel i hi
      have hi2 : elems[i]? = some (elems[i]'(by omega)) := List.getElem?_eq_getElem (by omega)
      rw [hi2] at e
      cases hc : W.cells? 0 (x'.add (i * 5)) 5 with
      | none => rw [hc] at e; simp at e
      | some cs =>
        rw [hc] at e
        simp only [Option.bind_some] at e
        obtain ⟨p, rfl⟩ := open_met e
        exact ⟨p, rfl, trivial⟩)
    refine ⟨_, l, hcs, hr, ?_⟩
    unfold reachBytes at hwt
    omega

set_option maxRecDepth 100000 in
theorem open_nums {H : Type} {enc : TypeId × Value → H} {W : World} {fuel : Nat} {cs : List Value} {x : DataW H × List MemPlace} (h : DataW.trod enc Try.prog W 0 (fun _ => true) true fuel 29 cs = some x) (hw : ∀ n ∈ x.1.weights Try.prog 29, n ≤ reachBytes) :
    ∃ (v : Value) (l : List Int), cs = [v] ∧ IntsR W v l ∧ l.length * 8 ≤ 140737488351232 ∧ ∀ i ∈ l, In64 i := by
  rcases DataW.trod_slice Try.underlying29 h with ⟨hcs, hx⟩ | ⟨x', len, cap, elems, rest, n, _, hcs, hx, hb, hl, hm, hlen, hel, _, _⟩
  · exact ⟨_, [], hcs, Rws.nil 1 W, by simp, by simp⟩
  · rw [Try.cells3] at hel
    have hwt := hw ((elems.length + rest.length) * 8) (by
      rw [hx]
      simp [DataW.weights, Try.underlying29, Try.bytes3])
    obtain ⟨l, hll, hr, hq⟩ := rows_any (n := 1) (by decide) (W := W) (x := x') hl hm irow (fun _ => rfl) (fun p => In64 p) (by
      intro i hi
      have e := hel i hi
      have hi2 : elems[i]? = some (elems[i]'(by omega)) := List.getElem?_eq_getElem (by omega)
      rw [hi2] at e
      cases hc : W.cells? 0 (x'.add (i * 1)) 1 with
      | none => rw [hc] at e; simp at e
      | some cs =>
        rw [hc] at e
        simp only [Option.bind_some] at e
        obtain ⟨a, e0, _, hwf⟩ := DataW.trod_int Try.underlying3 e
        subst e0
        exact ⟨a, rfl, bounds_i64 hwf⟩)
    refine ⟨_, l, hcs, hr, ?_, hq⟩
    unfold reachBytes at hwt
    omega

set_option maxRecDepth 100000 in
/-- A version that was handed in. -/
theorem arg_ver {H : Type} {enc : TypeId × Value → H} {W : World} {base : Nat} {v : Value} {d : DataW H} {p : List MemPlace} (hv : Value.okWide Try.prog W .any base 24 v) (h : DataW.Trod enc Try.prog W 0 (fun _ => true) true 24 v d p) (hw : ∀ n ∈ d.weights Try.prog 24, n ≤ reachBytes) :
    ∃ (a : Option Addr) (n c : Nat) (l : List Me) (s x : Int), v = .agg #[.slice a n c, .int .i64 s, .int .i64 x] ∧ MetsR W (.slice a n c) l ∧ l.length ≤ 4000000000000 := by
  obtain ⟨cs, rfl, hsz⟩ := okWide_struct Try.underlying24 hv
  obtain ⟨c0, c1, c2, rfl⟩ := array3 (hsz.trans Try.cells24)
  obtain ⟨fuel, hf⟩ := h
  obtain ⟨y0, y1, y2, n, hx, hl, h0, h1, h2⟩ := Go.Deep.trod_struct3 Try.underlying24 hf
  simp only [Prod.mk.injEq] at hx
  obtain ⟨rfl, rfl⟩ := hx
  simp only [Try.cells22, Try.cells3, Value.cells, List.drop_zero, List.take_succ_cons, List.take_zero, List.drop_succ_cons] at h0 h1 h2
  have hwE : ∀ q ∈ y0.1.weights Try.prog 22, q ≤ reachBytes := fun q hq => hw q (by
    simp [DataW.weights, Try.underlying24, DataW.weightsEach]
    exact .inl hq)
  obtain ⟨v0, l, e0, hE, hEb⟩ := open_mets h0 hwE
  obtain ⟨s, e1, _, _⟩ := DataW.trod_int Try.underlying3 h1
  obtain ⟨x, e2, _, _⟩ := DataW.trod_int Try.underlying3 h2
  simp at e0 e1 e2
  obtain ⟨a, c, rfl, _, _⟩ := hE.len
  subst e0 e1 e2
  exact ⟨a, _, c, l, s, x, rfl, hE, by omega⟩

end Go.Proofs.Ytjdibpmckeifhaa
