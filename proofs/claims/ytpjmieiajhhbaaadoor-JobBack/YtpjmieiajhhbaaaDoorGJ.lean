/- Jobs, plainly, and as arguments. -/
import Derived.Test.YtpjmieiajhhbaaaDoorNParse
import Derived.Test.YtpjmieiajhhbaaaDoorNNx
import Derived.Test.YtpjmieiajhhbaaaDoorGB
import Derived.Lib.SmallJoins
import Derived.SizedLaws

/- Jobs, plainly. -/
namespace Go.Proofs.YtpjmieiajhhbaaaDoor
open Go.RowKit
set_option linter.unusedVariables false
set_option linter.unusedSimpArgs false

/-- A job. -/
structure Jb where
  id : Int
  na : List Int
  ru : List Int
  pa : List Int
  st : Int
  du : Int
  tr : Int
  wk : Int
  tk : Int
  un : Int
/-- Its texts are octets. -/
def TxtOk (l : List Int) : Prop := (∀ x ∈ l, 0 ≤ x ∧ x ≤ 255) ∧ l.length ≤ 140737488355328
structure Jb.ok (j : Jb) : Prop where
  na : TxtOk j.na
  ru : TxtOk j.ru
  pa : TxtOk j.pa
def jobV (j : Jb) : Value := .agg #[.int .i64 j.id, .string (strOfNums j.na), .string (strOfNums j.ru), .string (strOfNums j.pa), .int .i64 j.st, .int .i64 j.du, .int .i64 j.tr, .int .i64 j.wk, .int .i64 j.tk, .int .i64 j.un]
def jobC (j : Jb) : Array Value := #[.int .i64 j.id, .string (strOfNums j.na), .string (strOfNums j.ru), .string (strOfNums j.pa), .int .i64 j.st, .int .i64 j.du, .int .i64 j.tr, .int .i64 j.wk, .int .i64 j.tk, .int .i64 j.un]
def jb0 : Jb := ⟨0, [], [], [], 0, 0, 0, 0, 0, 0⟩
theorem jobV_form (j : Jb) : jobV j = .agg (jobC j) := rfl
def inB (n lo hi : Int) : Bool := decide (lo ≤ n) && decide (n ≤ hi)
theorem inB_iff {n lo hi : Int} : inB n lo hi = true ↔ lo ≤ n ∧ n ≤ hi := by simp [inB]
/-- May a job be? -/
def chkA (j : Jb) : Bool := inB j.id 1 1099511627776 && (!decide (32 < j.na.length) && (!decide (200 < j.pa.length) && (inB j.st 1 3 && (inB j.du 0 32503680000 && inB j.tr 0 16))))
def chkR (j : Jb) : Bool := decide (j.ru = []) || ((parseR j.ru).2 == 0 && (!(j.st == 3) && !decide (200 < j.ru.length)))
def chkH (j : Jb) : Bool := inB j.wk 1 2147483648 && (inB j.tk 1 1099511627776 && (inB j.un 0 32503680000 && (j.du == 0)))
def chkL (j : Jb) : Bool := !(j.st == 2 && !chkH j) && !(!(j.st == 2) && (!(j.wk == 0) || (!(j.tk == 0) || !(j.un == 0))))
def chkJ (j : Jb) : Int := if chkA j && (chkR j && chkL j) then 0 else 9
theorem chkJ_two (j : Jb) : chkJ j = 0 ∨ chkJ j = 9 := by
  unfold chkJ
  split
  · exact .inl rfl
  · exact .inr rfl
end Go.Proofs.YtpjmieiajhhbaaaDoor

/- Limits of the page that were handed in. -/
namespace Go.Proofs.YtpjmieiajhhbaaaDoor
open Go.Joins Go.ChangeShapes Go.WideShapes Go.ChangeAt Go.RowKit
set_option linter.unusedVariables false
set_option linter.unusedSimpArgs false

theorem trod_struct3 {H : Type} {enc : TypeId × Value → H} {P : Program} {w : World} {base : Nat} {spare : Nat → Bool} {held : Bool} {t : TypeId} {f0 f1 f2 : Field} {fuel : Nat} {cs : List Value} {x : DataW H × List MemPlace} (ht : P.underlying t = some (.struct #[f0, f1, f2])) (h : DataW.trod enc P w base spare held fuel t cs = some x) :
    ∃ y0 y1 y2 n, DataW.trod enc P w base spare held n f0.type ((cs.drop f0.offset).take (P.cellsOf f0.type)) = some y0 ∧
      DataW.trod enc P w base spare held n f1.type ((cs.drop f1.offset).take (P.cellsOf f1.type)) = some y1 ∧ DataW.trod enc P w base spare held n f2.type ((cs.drop f2.offset).take (P.cellsOf f2.type)) = some y2 := by
  obtain ⟨xs, n, _, rfl, hl, hlen, hf⟩ := DataW.trod_struct ht h
  match xs, hlen with
  | [y0, y1, y2], _ => exact ⟨y0, y1, y2, n, by simpa using hf 0 f0 rfl, by simpa using hf 1 f1 rfl, by simpa using hf 2 f2 rfl⟩
theorem array3 {α : Type} {cs : Array α} (h : cs.size = 3) : ∃ a b c, cs = #[a, b, c] := by
  obtain ⟨l⟩ := cs
  match l, h with
  | [a, b, c], _ => exact ⟨a, b, c, rfl⟩
theorem cellsOfL : Tryd.prog.cellsOf 40 = 3 := by kernel_rfl
theorem cellsOfI : Tryd.prog.cellsOf 3 = 1 := by kernel_rfl
set_option maxRecDepth 100000 in
theorem arg_lim {H : Type} {enc : TypeId × Value → H} {W : World} {base : Nat} {v : Value} {d : DataW H} {p : List MemPlace} (hv : Value.okWide Tryd.prog W .any base 40 v) (h : DataW.Trod enc Tryd.prog W 0 (fun _ => true) true 40 v d p) :
    ∃ a b c, v = limV a b c := by
  obtain ⟨cs, rfl, hsz⟩ := okWide_struct Tryd.underlying40 hv
  obtain ⟨c0, c1, c2, rfl⟩ := array3 (hsz.trans cellsOfL)
  obtain ⟨fuel, hf⟩ := h
  obtain ⟨y0, y1, y2, n, h0, h1, h2⟩ := trod_struct3 Tryd.underlying40 hf
  simp only [cellsOfI, Value.cells, List.drop_zero, List.take_succ_cons, List.take_zero, List.drop_succ_cons] at h0 h1 h2
  obtain ⟨x0, e0, _, _⟩ := DataW.trod_int Tryd.underlying3 h0
  obtain ⟨x1, e1, _, _⟩ := DataW.trod_int Tryd.underlying3 h1
  obtain ⟨x2, e2, _, _⟩ := DataW.trod_int Tryd.underlying3 h2
  simp at e0 e1 e2
  subst e0 e1 e2
  exact ⟨x0, x1, x2, rfl⟩
theorem wf_i64 {n : Int} (h : (Lit.int .i64 n).wf = true) : n ≤ 9223372036854775807 := by
  simp [Lit.wf, IntKind.min, IntKind.max, IntKind.wrap, IntKind.signed, IntKind.bits] at h
  omega
end Go.Proofs.YtpjmieiajhhbaaaDoor

/- Jobs of the page that were handed in. -/
namespace Go.Proofs.YtpjmieiajhhbaaaDoor
open Go.Joins Go.ChangeShapes Go.WideShapes Go.ChangeAt Go.RowKit
set_option linter.unusedVariables false
set_option linter.unusedSimpArgs false

theorem trod_struct10 {H : Type} {enc : TypeId × Value → H} {P : Program} {w : World} {base : Nat} {spare : Nat → Bool} {held : Bool} {t : TypeId} {f0 f1 f2 f3 f4 f5 f6 f7 f8 f9 : Field} {fuel : Nat} {cs : List Value} {x : DataW H × List MemPlace} (ht : P.underlying t = some (.struct #[f0, f1, f2, f3, f4, f5, f6, f7, f8, f9])) (h : DataW.trod enc P w base spare held fuel t cs = some x) :
    ∃ y0 y1 y2 y3 y4 y5 y6 y7 y8 y9 n, x.1 = .agg [y0.1, y1.1, y2.1, y3.1, y4.1, y5.1, y6.1, y7.1, y8.1, y9.1] ∧ DataW.trod enc P w base spare held n f0.type ((cs.drop f0.offset).take (P.cellsOf f0.type)) = some y0 ∧
      DataW.trod enc P w base spare held n f1.type ((cs.drop f1.offset).take (P.cellsOf f1.type)) = some y1 ∧ DataW.trod enc P w base spare held n f2.type ((cs.drop f2.offset).take (P.cellsOf f2.type)) = some y2 ∧
      DataW.trod enc P w base spare held n f3.type ((cs.drop f3.offset).take (P.cellsOf f3.type)) = some y3 ∧ DataW.trod enc P w base spare held n f4.type ((cs.drop f4.offset).take (P.cellsOf f4.type)) = some y4 ∧
      DataW.trod enc P w base spare held n f5.type ((cs.drop f5.offset).take (P.cellsOf f5.type)) = some y5 ∧ DataW.trod enc P w base spare held n f6.type ((cs.drop f6.offset).take (P.cellsOf f6.type)) = some y6 ∧
      DataW.trod enc P w base spare held n f7.type ((cs.drop f7.offset).take (P.cellsOf f7.type)) = some y7 ∧ DataW.trod enc P w base spare held n f8.type ((cs.drop f8.offset).take (P.cellsOf f8.type)) = some y8 ∧
      DataW.trod enc P w base spare held n f9.type ((cs.drop f9.offset).take (P.cellsOf f9.type)) = some y9 := by
  obtain ⟨xs, n, _, rfl, hl, hlen, hf⟩ := DataW.trod_struct ht h
  match xs, hlen with
  | [y0, y1, y2, y3, y4, y5, y6, y7, y8, y9], _ => exact ⟨y0, y1, y2, y3, y4, y5, y6, y7, y8, y9, n, rfl, by simpa using hf 0 f0 rfl, by simpa using hf 1 f1 rfl, by simpa using hf 2 f2 rfl, by simpa using hf 3 f3 rfl, by simpa using hf 4 f4 rfl, by simpa using hf 5 f5 rfl, by simpa using hf 6 f6 rfl, by simpa using hf 7 f7 rfl, by simpa using hf 8 f8 rfl, by simpa using hf 9 f9 rfl⟩
theorem array10 {α : Type} {cs : Array α} (h : cs.size = 10) : ∃ a b c d e f g i j k, cs = #[a, b, c, d, e, f, g, i, j, k] := by
  obtain ⟨l⟩ := cs
  match l, h with
  | [a, b, c, d, e, f, g, i, j, k], _ => exact ⟨a, b, c, d, e, f, g, i, j, k, rfl⟩
theorem cellsOfJ : Tryd.prog.cellsOf 23 = 10 := by kernel_rfl
theorem cellsOfS : Tryd.prog.cellsOf 9 = 1 := by kernel_rfl
theorem txt_of {s : ByteArray} (h : s.data.toList.length ≤ reachBytes) : TxtOk (nums s) ∧ Value.string s = .string (strOfNums (nums s)) := by
  refine ⟨⟨nums_octet s, ?_⟩, by rw [str_nums]⟩
  simp only [reachBytes] at h
  simp only [nums, List.length_map]
  omega
set_option maxRecDepth 100000 in
theorem arg_job {H : Type} {enc : TypeId × Value → H} {W : World} {base : Nat} {v : Value} {d : DataW H} {p : List MemPlace} (hv : Value.okWide Tryd.prog W .any base 23 v) (h : DataW.Trod enc Tryd.prog W 0 (fun _ => true) true 23 v d p) (hw : ∀ n ∈ d.weights Tryd.prog 23, n ≤ reachBytes) :
    ∃ j : Jb, j.ok ∧ v = jobV j := by
  obtain ⟨cs, rfl, hsz⟩ := okWide_struct Tryd.underlying23 hv
  obtain ⟨c0, c1, c2, c3, c4, c5, c6, c7, c8, c9, rfl⟩ := array10 (hsz.trans cellsOfJ)
  obtain ⟨fuel, hf⟩ := h
  obtain ⟨y0, y1, y2, y3, y4, y5, y6, y7, y8, y9, n, hd, h0, h1, h2, h3, h4, h5, h6, h7, h8, h9⟩ := trod_struct10 Tryd.underlying23 hf
  simp only [cellsOfI, cellsOfS, Value.cells, List.drop_zero, List.take_succ_cons, List.take_zero, List.drop_succ_cons] at h0 h1 h2 h3 h4 h5 h6 h7 h8 h9
  obtain ⟨x0, e0, _, _⟩ := DataW.trod_int Tryd.underlying3 h0
  obtain ⟨x1, e1, z1, _⟩ := DataW.trod_string Tryd.underlying9 h1
  obtain ⟨x2, e2, z2, _⟩ := DataW.trod_string Tryd.underlying9 h2
  obtain ⟨x3, e3, z3, _⟩ := DataW.trod_string Tryd.underlying9 h3
  obtain ⟨x4, e4, _, _⟩ := DataW.trod_int Tryd.underlying3 h4
  obtain ⟨x5, e5, _, _⟩ := DataW.trod_int Tryd.underlying3 h5
  obtain ⟨x6, e6, _, _⟩ := DataW.trod_int Tryd.underlying3 h6
  obtain ⟨x7, e7, _, _⟩ := DataW.trod_int Tryd.underlying3 h7
  obtain ⟨x8, e8, _, _⟩ := DataW.trod_int Tryd.underlying3 h8
  obtain ⟨x9, e9, _, _⟩ := DataW.trod_int Tryd.underlying3 h9
  simp only [List.cons.injEq, and_true] at e0 e1 e2 e3 e4 e5 e6 e7 e8 e9
  subst e0 e1 e2 e3 e4 e5 e6 e7 e8 e9 z1 z2 z3
  have hd : d = _ := hd
  subst hd
  obtain ⟨t1, u1⟩ := txt_of (s := x1) (hw _ (by simp [DataW.weights, Tryd.underlying23, DataW.weightsEach]))
  obtain ⟨t2, u2⟩ := txt_of (s := x2) (hw _ (by simp [DataW.weights, Tryd.underlying23, DataW.weightsEach]))
  obtain ⟨t3, u3⟩ := txt_of (s := x3) (hw _ (by simp [DataW.weights, Tryd.underlying23, DataW.weightsEach]))
  rw [u1, u2, u3]
  exact ⟨⟨x0, nums x1, nums x2, nums x3, x4, x5, x6, x7, x8, x9⟩, ⟨t1, t2, t3⟩, rfl⟩
end Go.Proofs.YtpjmieiajhhbaaaDoor
