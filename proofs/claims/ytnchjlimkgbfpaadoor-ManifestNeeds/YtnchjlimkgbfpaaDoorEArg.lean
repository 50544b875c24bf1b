/- Versions, edits, octets that were handed in. -/
import Derived.Test.YtnchjlimkgbfpaaDoorG16
import Derived.Test.YtnchjlimkgbfpaaDoorRows
import Derived.Test.YtnchjlimkgbfpaaDoorG12
import Derived.ProofKit
import Derived.OpenShut
import Derived.SizedLaws
import Derived.ChangeSame
import Derived.Deep.Strs
import Derived.Lib.SmallJoins
namespace Go.Proofs.YtnchjlimkgbfpaaDoor
open Go.Joins Go.ChangeShapes Go.WideShapes Go.ChangeAt Go.RowKit
set_option linter.unusedVariables false
set_option linter.unusedSimpArgs false

theorem trod_struct5 {H : Type} {enc : TypeId × Value → H} {P : Program} {w : World} {base : Nat} {spare : Nat → Bool} {held : Bool} {t : TypeId} {f0 f1 f2 f3 f4 : Field} {fuel : Nat} {cs : List Value} {x : DataW H × List MemPlace} (ht : P.underlying t = some (.struct #[f0, f1, f2, f3, f4])) (h : DataW.trod enc P w base spare held fuel t cs = some x) :
    ∃ y0 y1 y2 y3 y4 n, x = (.agg [y0.1, y1.1, y2.1, y3.1, y4.1], y0.2 ++ (y1.2 ++ (y2.2 ++ (y3.2 ++ y4.2)))) ∧ cs.length = P.cellsOf t ∧ DataW.trod enc P w base spare held n f0.type ((cs.drop f0.offset).take (P.cellsOf f0.type)) = some y0 ∧
      DataW.trod enc P w base spare held n f1.type ((cs.drop f1.offset).take (P.cellsOf f1.type)) = some y1 ∧ DataW.trod enc P w base spare held n f2.type ((cs.drop f2.offset).take (P.cellsOf f2.type)) = some y2 ∧
      DataW.trod enc P w base spare held n f3.type ((cs.drop f3.offset).take (P.cellsOf f3.type)) = some y3 ∧ DataW.trod enc P w base spare held n f4.type ((cs.drop f4.offset).take (P.cellsOf f4.type)) = some y4 := by
  obtain ⟨xs, n, _, rfl, hl, hlen, hf⟩ := DataW.trod_struct ht h
  match xs, hlen with
  | [y0, y1, y2, y3, y4], _ => exact ⟨y0, y1, y2, y3, y4, n, by simp, hl, by simpa using hf 0 f0 rfl, by simpa using hf 1 f1 rfl, by simpa using hf 2 f2 rfl, by simpa using hf 3 f3 rfl, by simpa using hf 4 f4 rfl⟩

theorem Tryd.cells53 : Tryd.prog.cellsOf 53 = 5 := by kernel_rfl
theorem Tryd.cells36 : Tryd.prog.cellsOf 36 = 1 := by kernel_rfl
theorem Tryd.cells38 : Tryd.prog.cellsOf 38 = 3 := by kernel_rfl
theorem Tryd.bytes3 : Tryd.prog.bytesOf 3 = 8 := by kernel_rfl
theorem Tryd.bytes53 : Tryd.prog.bytesOf 53 = 56 := by kernel_rfl

theorem nil_octs (W : World) : Octs W (.slice none 0 0) [] := ⟨(fun x hx => by cases hx), .inl ⟨rfl, _, _, rfl, fun _ => rfl⟩⟩

theorem bulk_pos {H : Type} (d : DataW H) : 1 ≤ Rows.uptoBulk d := by
  cases d with
  | lit l => cases l <;> simp [Rows.uptoBulk]
  | _ => simp [Rows.uptoBulk]

theorem bulk_len {H : Type} : ∀ (l : List (DataW H)), l.length ≤ Rows.uptoBulkAll l
  | [] => by simp [Rows.uptoBulkAll]
  | d :: r => by
    have h1 := bulk_pos d
    have h2 := bulk_len r
    simp only [Rows.uptoBulkAll, List.length_cons]
    omega

theorem open_octsE {H : Type} {enc : TypeId × Value → H} {W : World} {fuel : Nat} {cs : List Value} {x : DataW H × List MemPlace} (h : DataW.trod enc Tryd.prog W 0 (fun _ => true) true fuel 56 cs = some x) :
    ∃ (a : Option Addr) (c : Nat) (l : List Int), cs = [.slice a l.length c] ∧ Octs W (.slice a l.length c) l ∧ ((∀ n ∈ x.1.weights Tryd.prog 56, n ≤ reachBytes) → l.length ≤ 140737488351232) ∧ l.length ≤ Rows.uptoBulk x.1 := by
  rcases open_ints Tryd.underlying56 Tryd.underlying5 Tryd.cells5 h with ⟨hcs, _⟩ | ⟨a, l, c, zs, hcs, _, hl, hm, hz, hx, hcell, hwz⟩
  · exact ⟨none, 0, [], hcs, nil_octs W, fun _ => by simp, by simp⟩
  · have hz' : zs.length = c := by simpa using hz
    have hlen : (zs.take l).length = l := by rw [List.length_take]; omega
    refine ⟨some a, c, zs.take l, by rw [hlen]; exact hcs, by rw [hlen]; exact arg_octs hl hm hz' hcell hwz, ?_, ?_⟩
    · intro hw
      rw [hx] at hw
      have := hw (((lits .u8 (zs.take l)).length + (lits .u8 (zs.drop l)).length) * 1) (by
        simp [DataW.weights, Tryd.underlying56, Tryd.bytes5]
        exact .inl rfl)
      simp only [lits, List.length_map, reachBytes] at this
      omega
    · rw [hx]
      have := bulk_len (H := H) (lits .u8 (zs.take l))
      simp only [Rows.uptoBulk]
      simp only [lits, List.length_map] at this ⊢
      omega


set_option maxRecDepth 100000 in
theorem open_met {H : Type} {enc : TypeId × Value → H} {W : World} {fuel : Nat} {cs : List Value} {x : DataW H × List MemPlace} (h : DataW.trod enc Tryd.prog W 0 (fun _ => true) true fuel 53 cs = some x) :
    ∃ p : Me, cs = meRow p := by
  obtain ⟨y0, y1, y2, y3, y4, n, rfl, hl, h0, h1, h2, h3, h4⟩ := trod_struct5 Tryd.underlying53 h
  rw [Tryd.cells53] at hl
  match cs, hl with
  | [c0, c1, c2, c3, c4], _ =>
    simp only [Tryd.cells9, Tryd.cells3, List.drop_zero, List.take_succ_cons, List.take_zero, List.drop_succ_cons] at h0 h1 h2 h3 h4
    obtain ⟨a, e0, rfl, _⟩ := DataW.trod_int Tryd.underlying3 h0
    obtain ⟨b, e1, rfl, _⟩ := DataW.trod_int Tryd.underlying3 h1
    obtain ⟨c, e2, rfl, _⟩ := DataW.trod_int Tryd.underlying3 h2
    obtain ⟨s, e3, rfl, hs⟩ := DataW.trod_string Tryd.underlying9 h3
    obtain ⟨t, e4, rfl, ht⟩ := DataW.trod_string Tryd.underlying9 h4
    simp at e0 e1 e2 e3 e4
    subst e0 e1 e2 e3 e4
    exact ⟨⟨a, b, c, s, t⟩, rfl⟩

set_option maxRecDepth 100000 in
theorem open_mets {H : Type} {enc : TypeId × Value → H} {W : World} {fuel : Nat} {cs : List Value} {x : DataW H × List MemPlace} (h : DataW.trod enc Tryd.prog W 0 (fun _ => true) true fuel 36 cs = some x) (hw : ∀ n ∈ x.1.weights Tryd.prog 36, n ≤ reachBytes) :
    ∃ (v : Value) (l : List Me), cs = [v] ∧ MetsR W v l ∧ l.length * 56 ≤ 140737488351232 := by
  rcases DataW.trod_slice Tryd.underlying36 h with ⟨hcs, hx⟩ | ⟨x', len, cap, elems, rest, n, _, hcs, hx, hb, hl, hm, hlen, hel, _, _⟩
  · exact ⟨_, [], hcs, Rws.nil 5 W, by simp⟩
  · rw [Tryd.cells53] at hel
    have hwt := hw ((elems.length + rest.length) * 56) (by
      rw [hx]
      simp [DataW.weights, Tryd.underlying36, Tryd.bytes53])
    obtain ⟨l, hll, hr, hq⟩ := rows_any (n := 5) (by decide) (W := W) (x := x') hl hm meRow (fun _ => rfl) (fun p => True) (by
      intro i hi
      have e := hel i hi
      have hi2 : elems[i]? = some (elems[i]'(by omega)) := List.getElem?_eq_getElem (by omega)
      rw [hi2] at e
      cases hc : W.cells? 0 (x'.add (i * 5)) 5 with
      | none => rw [hc] at e; simp at e
      | some cs =>
        rw [hc] at e
        simp only [Option.bind_some] at e
        obtain ⟨p, rfl⟩ := open_met e
        exact ⟨p, rfl, trivial⟩)
    refine ⟨_, l, hcs, hr, ?_⟩
    unfold reachBytes at hwt
    omega

set_option maxRecDepth 100000 in
/-- A version that was handed in. -/
theorem arg_ver {H : Type} {enc : TypeId × Value → H} {W : World} {base : Nat} {v : Value} {d : DataW H} {p : List MemPlace} (hv : Value.okWide Tryd.prog W .any base 38 v) (h : DataW.Trod enc Tryd.prog W 0 (fun _ => true) true 38 v d p) (hw : ∀ n ∈ d.weights Tryd.prog 38, n ≤ reachBytes) :
    ∃ (a : Option Addr) (n c : Nat) (l : List Me) (s x : Int), v = .agg #[.slice a n c, .int .i64 s, .int .i64 x] ∧ MetsR W (.slice a n c) l ∧ l.length ≤ 4000000000000 := by
  obtain ⟨cs, rfl, hsz⟩ := okWide_struct Tryd.underlying38 hv
  obtain ⟨c0, c1, c2, rfl⟩ := array3 (hsz.trans Tryd.cells38)
  obtain ⟨fuel, hf⟩ := h
  obtain ⟨y0, y1, y2, n, hx, hl, h0, h1, h2⟩ := Go.Deep.trod_struct3 Tryd.underlying38 hf
  simp only [Prod.mk.injEq] at hx
  obtain ⟨rfl, rfl⟩ := hx
  simp only [Tryd.cells36, Tryd.cells3, Value.cells, List.drop_zero, List.take_succ_cons, List.take_zero, List.drop_succ_cons] at h0 h1 h2
  have hwE : ∀ q ∈ y0.1.weights Tryd.prog 36, q ≤ reachBytes := fun q hq => hw q (by
    simp [DataW.weights, Tryd.underlying38, DataW.weightsEach]
    exact .inl hq)
  obtain ⟨v0, l, e0, hE, hEb⟩ := open_mets h0 hwE
  obtain ⟨s, e1, _, _⟩ := DataW.trod_int Tryd.underlying3 h1
  obtain ⟨x, e2, _, _⟩ := DataW.trod_int Tryd.underlying3 h2
  simp at e0 e1 e2
  obtain ⟨a, c, rfl, _, _⟩ := hE.len
  subst e0 e1 e2
  exact ⟨a, _, c, l, s, x, rfl, hE, by omega⟩

end Go.Proofs.YtnchjlimkgbfpaaDoor
