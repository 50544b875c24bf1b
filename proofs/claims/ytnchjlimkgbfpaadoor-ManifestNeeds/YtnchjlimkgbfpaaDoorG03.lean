/- The texts HEnv, HSet, HPar, HNeed, LBase, in this order. -/
import Derived.Test.YtnchjlimkgbfpaaDoorRows
import Derived.Test.YtnchjlimkgbfpaaDoorG02
import Derived.Stop.LaidErr
import Derived.Lib.LaidTab
import Derived.LaidLaws
import Derived.RowKitTokens
import Derived.JoinedAt
import Derived.JoinedOf
import Derived.ChangeVars
import Derived.ChangeSame
import Derived.ChangeMaps5
import Derived.Maps.OwnSet
import Derived.StringKeys

/- What the rows' lists of variables say: the library's table and its two errors; and one start that fits. -/
namespace Go.Proofs.YtnchjlimkgbfpaaDoor
open Go.RowKit
set_option linter.unusedVariables false

theorem gES : Tryd.prog.globalNamed "strconv.ErrSyntax" = some 0 := by kernel_rfl
theorem gER : Tryd.prog.globalNamed "strconv.ErrRange" = some 1 := by kernel_rfl
theorem gPT : Tryd.prog.globalNamed "internal/strconv.uint64pow10" = some 2 := by kernel_rfl
theorem gESt : (Tryd.prog.globals[0]?).map (·.type) = some 60 := by kernel_rfl
theorem gERt : (Tryd.prog.globals[1]?).map (·.type) = some 60 := by kernel_rfl
theorem gPTt : (Tryd.prog.globals[2]?).map (·.type) = some 117 := by kernel_rfl
theorem cells125 : Tryd.prog.cellsOf 125 = 1 := by kernel_rfl
theorem cells9 : Tryd.prog.cellsOf 9 = 1 := by kernel_rfl
theorem cells86 : Tryd.prog.cellsOf 86 = 1 := by kernel_rfl
theorem cells117 : Tryd.prog.cellsOf 117 = 20 := by kernel_rfl
theorem starE : "*" ++ "errors.errorString" = "*errors.errorString" := by decide
theorem row123 (u : TypeId) (h : Tryd.prog.typeName? 3 u = some "*errors.errorString") : u = 123 :=
  typeName_ptr_named (nm := "errors.errorString") (by rw [starE]; kernel_rfl) (by kernel_rfl) (by decide) u (by rw [starE]; exact h)
/-- The list of the rows. -/
def laidL : List (String × DataW Unit) := [("math/bits.deBruijn32tab", Rows.laid_math_bits_deBruijn32tab), ("math/bits.deBruijn64tab", Rows.laid_math_bits_deBruijn64tab), ("internal/strconv.uint64pow10", Rows.laid_internal_strconv_uint64pow10), ("strconv.ErrRange", Rows.laid_strconv_ErrRange), ("strconv.ErrSyntax", Rows.laid_strconv_ErrSyntax)]
theorem env_of {W : World} (h : laidMet Tryd.prog laidL W) : EnvL W := by
  have h3 := h.tail.tail
  have ht : Lib.TabIs Tryd.prog W "internal/strconv.uint64pow10" .u64 Lib.pow10Tab := Lib.tabIs_of_head gPT gPTt Tryd.underlying117 Tryd.underlying86 cells86 cells117 h3
  obtain ⟨a1, s1, hv1, -, -, -⟩ := laid_sentinel h3.tail gER gERt Tryd.underlying60 row123 Tryd.underlying123 Tryd.underlying125 rfl rfl Tryd.underlying9 cells125 cells9
  obtain ⟨a0, s0, hv0, -, -, -⟩ := laid_sentinel h3.tail.tail gES gESt Tryd.underlying60 row123 Tryd.underlying123 Tryd.underlying125 rfl rfl Tryd.underlying9 cells125 cells9
  have c0 : W.cell? ⟨0, 0, none⟩ = some (.iface 123 (.pointer (some a0))) := by have h0 := World.var?_cell gES hv0 0; simpa using h0
  have c1 : W.cell? ⟨1, 0, none⟩ = some (.iface 123 (.pointer (some a1))) := by have h0 := World.var?_cell gER hv1 0; simpa using h0
  refine ⟨Lib.tabBelow_of_tabIs ht, _, _, _, _, c0, c1, ?_⟩
  have := World.block_lt_of_cell? W _ c1
  simp at this
  omega

/-! ### one start that fits -/
noncomputable def low : Nat := (World.holding Tryd.prog default ⟨#[], #[], []⟩).heap.size
def d32 : List Int := [0, 1, 28, 2, 29, 14, 24, 3, 30, 22, 20, 15, 25, 17, 4, 8, 31, 27, 13, 23, 21, 19, 16, 7, 26, 12, 18, 6, 11, 5, 10, 9]
def d64 : List Int := [0, 1, 56, 2, 57, 49, 28, 3, 61, 58, 42, 50, 38, 29, 17, 4, 62, 47, 59, 36, 45, 43, 51, 22, 53, 39, 33, 30, 24, 18, 12, 5, 63, 55, 48, 27, 60, 41, 37, 16, 46, 35, 44, 21, 52, 32, 23, 11, 54, 26, 40, 15, 34, 20, 31, 10, 25, 14, 19, 9, 13, 8, 7, 6]
def synS : ByteArray := { data := #[105, 110, 118, 97, 108, 105, 100, 32, 115, 121, 110, 116, 97, 120] }
def rngS : ByteArray := { data := #[118, 97, 108, 117, 101, 32, 111, 117, 116, 32, 111, 102, 32, 114, 97, 110, 103, 101] }
noncomputable def laidWorld (os : Os) : World :=
  let w0 := World.holding Tryd.prog os ⟨#[.cells #[.string synS] 125, .cells #[.string rngS] 125], #[], []⟩
  let put (h : Array Obj) (g : Nat) (cs : Array Value) : Array Obj := h.modify g fun
    | .cells _ t frozen => .cells cs t frozen
    | o => o
  let h0 := put (put w0.heap 0 #[.iface 123 (.pointer (some ⟨low, 0, none⟩))]) 1 #[.iface 123 (.pointer (some ⟨low + 1, 0, none⟩))]
  let h1 := put h0 2 (Lib.pow10Tab.map fun z => Value.int .u64 z).toArray
  let h2 := put h1 3 (d32.map fun z => Value.int .u8 z).toArray
  let h3 := put h2 4 (d64.map fun z => Value.int .u8 z).toArray
  { w0 with heap := h3 }
set_option maxRecDepth 100000 in
theorem laidWorld_met (os : Os) (args : Array Value) : laidMet Tryd.prog laidL ((laidWorld os).forCall (fun _ _ => 0) ⟨#[], args, []⟩).memory :=
  laidMet_of_run' 8 (by kernel_rfl) (by kernel_rfl)
end Go.Proofs.YtnchjlimkgbfpaaDoor

/- A set of texts in memory. No Go function is walked here. -/
namespace Go.Proofs.YtnchjlimkgbfpaaDoor
open Go.RowKit
set_option linter.unusedVariables false
set_option linter.unusedSimpArgs false

theorem strLit_inj {s t : List UInt8} (h : Lit.string s = Lit.string t) : s = t := by injection h
def addS (l : List (List UInt8)) (x : List UInt8) : List (List UInt8) := if x ∈ l then l else l ++ [x]
/-- Block b is a set of these texts. -/
def SetS (P : Program) (k : TypeId) (w : World) (b : Nat) (l : List (List UInt8)) : Prop := ∃ D : DataW Unit, w.ownsMap P k unitElem b l.length D ∧ Maps.Tidy D ∧ Maps.size D = l.length ∧ ∀ x, Maps.has D (Lit.string x) = decide (x ∈ l)
theorem own_tightS {P : Program} {k : TypeId} {w : World} {b n : Nat} {D : DataW Unit} (h : w.ownsMap P k unitElem b n D) : w.ownsMap P k unitElem b (Maps.size D) D := by
  obtain ⟨es, clock, hb, F, hs, rfl⟩ := h
  exact ⟨es, clock, hb, F, by simp [Maps.size, length_sorted], rfl⟩
theorem SetS.made (P : Program) (k : TypeId) (w : World) : SetS P k (w.alloc (.map #[] 0)) w.heap.size [] :=
  ⟨.map [], World.ownsMap_made w P k unitElem, Maps.tidy_empty, rfl, fun x => rfl⟩
theorem SetS.lt {P : Program} {k : TypeId} {w : World} {b : Nat} {l : List (List UInt8)} (h : SetS P k w b l) : b < w.heap.size := by
  obtain ⟨D, h1, _⟩ := h
  exact h1.lt
theorem SetS.kept {P : Program} {k : TypeId} {w w' : World} {b : Nat} {l : List (List UInt8)} {r : Option Nat} (h : SetS P k w b l) (hg : w.grownBy w' r) (hne : some b ≠ r) : SetS P k w' b l := by
  obtain ⟨D, h1, h2⟩ := h
  exact ⟨D, h1.kept hg hne, h2⟩
theorem SetS.up {P : Program} {k : TypeId} {w w' : World} {b : Nat} {l : List (List UInt8)} (h : SetS P k w b l) (hb : Below w.heap.size w w') : SetS P k w' b l := by
  obtain ⟨D, ⟨es, clock, hh, r⟩, h2⟩ := h
  exact ⟨D, ⟨es, clock, (hb.block b (Array.getElem?_eq_some_iff.1 hh).1).trans hh, r⟩, h2⟩
theorem SetS.put {P : Program} {k : TypeId} {w' : World} {b : Nat} {l : List (List UInt8)} {x : List UInt8} {D : DataW Unit} (h2 : Maps.Tidy D) (h3 : Maps.size D = l.length) (h4 : ∀ y, Maps.has D (Lit.string y) = decide (y ∈ l))
    (h : w'.ownsMap P k unitElem b (l.length + 1) (D.put (Lit.string x) (.agg []))) : SetS P k w' b (addS l x) := by
  have hk : WideAt.IsKeyLit (Lit.string x) := trivial
  have hsz : Maps.size (D.put (Lit.string x) (.agg [])) = (addS l x).length := by
    rw [Maps.size_put h2, h4 x, h3]
    unfold addS
    by_cases q : x ∈ l
    · rw [if_pos q, if_pos (by simpa using q)]
    · rw [if_neg q, if_neg (by simpa using q)]; simp
  refine ⟨D.put (Lit.string x) (.agg []), ?_, h2.put hk _, hsz, fun y => ?_⟩
  · have := own_tightS h
    rw [hsz] at this
    exact this
  · by_cases e : y = x
    · subst e
      rw [Maps.has_put_same h2.isMap hk]
      unfold addS
      by_cases q : y ∈ l
      · rw [if_pos q]; simp [q]
      · rw [if_neg q]; simp
    · rw [Maps.has_put_other (fun q => e (strLit_inj q)), h4 y]
      unfold addS
      by_cases q : x ∈ l
      · rw [if_pos q]
      · rw [if_neg q]; simp [e]
/-- A store of a text into the set. -/
theorem wpList_setS_put {P : Program} {k t e : TypeId} (hk : P.underlying k = some .string) (ht : P.underlying t = some (.map k e)) (w : World) {ops : Array Oper} {rest : List Oper} {o : Oper} {a : Act} {Q : Exit → Act → World → Prop} (hgd : o.guard = none) (m x v : Operand) (hop : o.op = Op.mapUpdate t m x v)
    (b : Nat) (l : List (List UInt8)) (hm : a.eval m = .map (some b)) (hs : SetS P k w b l) (hn : l.length < maxLen) (s : ByteArray) (hz : s.size ≤ maxLen) (hx : a.eval x = .string s) (hv : a.eval v = .agg #[])
    (hK : ∀ w', SetS P k w' b (addS l s.data.toList) → w.grownBy w' (some b) → wpList P ops Q rest (a.put o.dst undef) w') : wpList P ops Q (o :: rest) a w := by
  obtain ⟨D, h1, h2, h3, h4⟩ := hs
  refine wpList_mapUpdate_own w hgd m x v t hop k e (Maps.string_keyed hk) ht unitElem b l.length D hm h1 hn _ _ (.string s.data.toList) hx hv (WideMaps.keyOf_string_mk hk hz) (.agg []) [] unitElem_mk ?_
  intro w' r1 r2
  exact hK w' (SetS.put h2 h3 h4 r1) r2
/-- A look into the set. -/
theorem wpList_setS_look {P : Program} {k t e : TypeId} (hk : P.underlying k = some .string) (ht : P.underlying t = some (.map k e)) (w : World) (hz0 : (zeroValue e).run P w = .ok (.agg #[]) w) {ops : Array Oper} {rest : List Oper} {o : Oper} {a : Act} {Q : Exit → Act → World → Prop} (hgd : o.guard = none) (m x : Operand) (hop : o.op = Op.lookup t m x true)
    (b : Nat) (l : List (List UInt8)) (hm : a.eval m = .map (some b)) (hs : SetS P k w b l) (s : ByteArray) (hz : s.size ≤ maxLen) (hx : a.eval x = .string s)
    (hK : wpList P ops Q rest (a.put o.dst (.tuple #[.agg #[], .bool (decide (s.data.toList ∈ l))])) w) : wpList P ops Q (o :: rest) a w := by
  obtain ⟨D, h1, h2, h3, h4⟩ := hs
  refine wpList_lookup_own_unit w hgd m x t hop k e (Maps.string_keyed hk) ht hz0 b l.length D hm h1 (.string s) (.string s.data.toList) hx (WideMaps.keyOf_string_mk hk hz) ?_
  rw [h4 s.data.toList]
  exact hK

/-- The first text of a set that is written out. -/
theorem wpList_setS_ins {P : Program} {k t e : TypeId} (hk : P.underlying k = some .string) (ht : P.underlying t = some (.map k e)) (w : World) {ops : Array Oper} {rest : List Oper} {o : Oper} {a : Act} {Q : Exit → Act → World → Prop} (hgd : o.guard = none) (m x v : Operand) (hop : o.op = Op.insert t m x v)
    (b : Nat) (l : List (List UInt8)) (hm : a.eval m = .map (some b)) (hs : SetS P k w b l) (hn : l.length < maxLen) (s : ByteArray) (hz : s.size ≤ maxLen) (hx : a.eval x = .string s) (hv : a.eval v = .agg #[])
    (hK : ∀ w', SetS P k w' b (addS l s.data.toList) → w.grownBy w' (some b) → wpList P ops Q rest (a.put o.dst undef) w') : wpList P ops Q (o :: rest) a w := by
  obtain ⟨D, h1, h2, h3, h4⟩ := hs
  refine wpList_plain hgd fun K' hK' => ?_
  obtain ⟨w', hrun, r1, r2⟩ := h1.update (Maps.string_keyed hk) ht hn (WideMaps.keyOf_string_mk hk hz) (unitElem_mk)
  unfold Oper.wp
  simp [execOp, hop, hm, hx, hv, hrun, Result.andThen]
  exact hK' _ _ (hK w' (SetS.put h2 h3 h4 r1) r2)
/-! ### texts as octets -/
theorem str_u8s (l : List Int) : (strOfNums l).data.toList = u8s l := by simp [strOfNums, u8s]
theorem u8s_inj {a b : List Int} (ha : ∀ x ∈ a, 0 ≤ x ∧ x ≤ 255) (hb : ∀ x ∈ b, 0 ≤ x ∧ x ≤ 255) (h : u8s a = u8s b) : a = b := by
  have e : strOfNums a = strOfNums b := by
    unfold strOfNums
    unfold u8s at h
    simp [h]
  rw [← nums_str a ha, ← nums_str b hb, e]
def OctN (l : List (List Int)) : Prop := ∀ x ∈ l, ∀ y ∈ x, 0 ≤ y ∧ y ≤ 255
theorem mem_u8s {l : List (List Int)} (hl : OctN l) {x : List Int} (hx : ∀ y ∈ x, 0 ≤ y ∧ y ≤ 255) : u8s x ∈ l.map u8s ↔ x ∈ l := by
  constructor
  · intro h
    obtain ⟨y, hy, e⟩ := List.mem_map.1 h
    have := u8s_inj (hl y hy) hx e
    rw [← this]; exact hy
  · intro h
    exact List.mem_map.2 ⟨x, h, rfl⟩
/-- Block b is a set of these texts, as octets. -/
def SetN (w : World) (b : Nat) (l : List (List Int)) : Prop := OctN l ∧ SetS Tryd.prog 9 w b (l.map u8s)
theorem SetN.lt {w : World} {b : Nat} {l : List (List Int)} (h : SetN w b l) : b < w.heap.size := h.2.lt
theorem SetN.up {w w' : World} {b : Nat} {l : List (List Int)} (h : SetN w b l) (hb : Below w.heap.size w w') : SetN w' b l := ⟨h.1, h.2.up hb⟩
theorem SetN.kept {w w' : World} {b : Nat} {l : List (List Int)} {r : Option Nat} (h : SetN w b l) (hg : w.grownBy w' r) (hne : some b ≠ r) : SetN w' b l := ⟨h.1, h.2.kept hg hne⟩
def addN (l : List (List Int)) (x : List Int) : List (List Int) := if x ∈ l then l else l ++ [x]
theorem mem_addN {l : List (List Int)} {x y : List Int} : y ∈ addN l x ↔ y ∈ l ∨ y = x := by
  unfold addN
  by_cases h : x ∈ l
  · rw [if_pos h]
    constructor
    · exact .inl
    · rintro (h2 | rfl)
      · exact h2
      · exact h
  · rw [if_neg h]; simp
theorem addN_map {l : List (List Int)} (hl : OctN l) {x : List Int} (hx : ∀ y ∈ x, 0 ≤ y ∧ y ≤ 255) : addS (l.map u8s) (u8s x) = (addN l x).map u8s := by
  unfold addS addN
  by_cases h : x ∈ l
  · rw [if_pos h, if_pos ((mem_u8s hl hx).2 h)]
  · rw [if_neg h, if_neg (fun q => h ((mem_u8s hl hx).1 q))]; simp
theorem addN_oct {l : List (List Int)} (hl : OctN l) {x : List Int} (hx : ∀ y ∈ x, 0 ≤ y ∧ y ≤ 255) : OctN (addN l x) := by
  intro y hy
  rcases mem_addN.1 hy with h | rfl
  · exact hl y h
  · exact hx
theorem SetN.cell_ne {w : World} {b C i : Nat} {l : List (List Int)} {v : Value} (h : SetN w b l) (hc : w.cell? ⟨C, i, none⟩ = some v) : C ≠ b := by
  intro e
  subst e
  obtain ⟨D, ⟨es, clock, hh, _⟩, _⟩ := h.2
  simp [World.cell?, hh] at hc
theorem zero68 (w : World) : (zeroValue 68).run Tryd.prog w = .ok (.agg #[]) w := by kernel_rfl
theorem wpList_setN_put (w : World) {ops : Array Oper} {rest : List Oper} {o : Oper} {a : Act} {Q : Exit → Act → World → Prop} (hgd : o.guard = none) (m x v : Operand) (hop : o.op = Op.mapUpdate 65 m x v)
    (b : Nat) (l : List (List Int)) (hm : a.eval m = .map (some b)) (hs : SetN w b l) (hn : l.length < maxLen) (s : List Int) (ho : ∀ y ∈ s, 0 ≤ y ∧ y ≤ 255) (hz : s.length ≤ maxLen) (hx : a.eval x = .string (strOfNums s)) (hv : a.eval v = .agg #[])
    (hK : ∀ w', SetN w' b (addN l s) → w.grownBy w' (some b) → wpList Tryd.prog ops Q rest (a.put o.dst undef) w') : wpList Tryd.prog ops Q (o :: rest) a w := by
  refine wpList_setS_put Tryd.underlying9 Tryd.underlying65 w hgd m x v hop b _ hm hs.2 (by rw [List.length_map]; exact hn) (strOfNums s) (by rw [strOfNums_size]; exact hz) hx hv ?_
  intro w' h1 h2
  rw [str_u8s, addN_map hs.1 ho] at h1
  exact hK w' ⟨addN_oct hs.1 ho, h1⟩ h2
theorem wpList_setN_ins (w : World) {ops : Array Oper} {rest : List Oper} {o : Oper} {a : Act} {Q : Exit → Act → World → Prop} (hgd : o.guard = none) (m x v : Operand) (hop : o.op = Op.insert 65 m x v)
    (b : Nat) (l : List (List Int)) (hm : a.eval m = .map (some b)) (hs : SetN w b l) (hn : l.length < maxLen) (s : List Int) (ho : ∀ y ∈ s, 0 ≤ y ∧ y ≤ 255) (hz : s.length ≤ maxLen) (hx : a.eval x = .string (strOfNums s)) (hv : a.eval v = .agg #[])
    (hK : ∀ w', SetN w' b (addN l s) → w.grownBy w' (some b) → wpList Tryd.prog ops Q rest (a.put o.dst undef) w') : wpList Tryd.prog ops Q (o :: rest) a w := by
  refine wpList_setS_ins Tryd.underlying9 Tryd.underlying65 w hgd m x v hop b _ hm hs.2 (by rw [List.length_map]; exact hn) (strOfNums s) (by rw [strOfNums_size]; exact hz) hx hv ?_
  intro w' h1 h2
  rw [str_u8s, addN_map hs.1 ho] at h1
  exact hK w' ⟨addN_oct hs.1 ho, h1⟩ h2
theorem wpList_setN_look (w : World) {ops : Array Oper} {rest : List Oper} {o : Oper} {a : Act} {Q : Exit → Act → World → Prop} (hgd : o.guard = none) (m x : Operand) (hop : o.op = Op.lookup 65 m x true)
    (b : Nat) (l : List (List Int)) (hm : a.eval m = .map (some b)) (hs : SetN w b l) (s : List Int) (ho : ∀ y ∈ s, 0 ≤ y ∧ y ≤ 255) (hz : s.length ≤ maxLen) (hx : a.eval x = .string (strOfNums s))
    (hK : wpList Tryd.prog ops Q rest (a.put o.dst (.tuple #[.agg #[], .bool (decide (s ∈ l))])) w) : wpList Tryd.prog ops Q (o :: rest) a w := by
  refine wpList_setS_look Tryd.underlying9 Tryd.underlying65 w (zero68 w) hgd m x hop b _ hm hs.2 (strOfNums s) (by rw [strOfNums_size]; exact hz) hx ?_
  have e : decide ((strOfNums s).data.toList ∈ l.map u8s) = decide (s ∈ l) := by
    rw [str_u8s]
    by_cases h : s ∈ l
    · rw [decide_eq_true h, decide_eq_true ((mem_u8s hs.1 ho).2 h)]
    · rw [decide_eq_false h, decide_eq_false (fun q => h ((mem_u8s hs.1 ho).1 q))]
  rw [e]
  exact hK
end Go.Proofs.YtnchjlimkgbfpaaDoor

/- The program's Parse: for any text it says what 'parseN' says. -/
namespace Go.Proofs.YtnchjlimkgbfpaaDoor
open Go.RowKit
set_option linter.unusedVariables false
set_option linter.unusedSimpArgs false

theorem str_size (l : List Int) : (strOfNums l).size = l.length := strOfNums_size l
theorem str_at (l : List Int) (hl : ∀ x ∈ l, 0 ≤ x ∧ x ≤ 255) (k : Nat) (h : k < (strOfNums l).size) : (((strOfNums l)[k]'h).toNat : Int) = l.getD k 0 := by
  have hk : k < l.length := by rw [str_size] at h; exact h
  have e : (strOfNums l)[k]'h = UInt8.ofNat (l[k]).toNat := by
    show (strOfNums l).data[k]'_ = _
    simp [strOfNums]
  have hb := hl l[k] (List.getElem_mem hk)
  rw [e]
  simp [List.getD, hk]
  omega
theorem nameX (k id : Int) (s : ByteArray) (n : Int) (h : (strOfNums (nameN k id).1, (nameN k id).2) = (s, n)) (hk : 0 ≤ k ∧ k ≤ 255) (w : World) (ht : Tab w) : Calls Tryd.prog 5 #[.int .u8 k, .int .i64 id] w fun e w' => e = .returned (.tuple #[.string s, .int .i64 n]) ∧ Below w.heap.size w w' := by
  injection h with h1 h2
  rw [← h1, ← h2]
  exact name_any k id hk w ht
set_option maxHeartbeats 2000000 in
theorem parse_any (s : List Int) (hs : ∀ x ∈ s, 0 ≤ x ∧ x ≤ 255) (hm : s.length ≤ 140737488355328) (w : World) (he : EnvL w) : Calls Tryd.prog 7 #[.string (strOfNums s)] w fun e w' => e = .returned (parR (parseN s)) ∧ Below w.heap.size w w' := by
  have HB : Hid (Below w.heap.size w w) := Below.refl _ _
  cases s with
  | nil =>
    have e : parR (parseN []) = .tuple #[.int .u8 0, .int .i64 0, .bool false] := rfl
    have hs0 : strOfNums [] = { data := #[] } := rfl
    rw [e, hs0]
    go_enter Tryd.func7, Tryd.ntmps7
    go_wp2_with fail
    go_ret3
    exact ⟨rfl, HB.out⟩
  | cons k l =>
    have hne : ¬ (strOfNums (k :: l)).toList = [] := by rw [str_list]; simp
    have hnb : ((strOfNums (k :: l)).toList == []) = false := by simpa using hne
    have hsz : (strOfNums (k :: l)).size = l.length + 1 := by rw [str_size]; rfl
    have h0 : 0 < (strOfNums (k :: l)).size := by omega
    have hat := str_at (k :: l) hs 0 h0
    have hk := hs k List.mem_cons_self
    have hl : ∀ x ∈ l, 0 ≤ x ∧ x ≤ 255 := fun x hx => hs x (List.mem_cons_of_mem _ hx)
    rw [show (k :: l).getD 0 0 = k from rfl] at hat
    have ec : (strOfNums (k :: l)).extract 1 (l.length + 1) = strOfNums l := by
      rw [str_cut, List.take_of_length_le (by simp)]
      rfl
    have hlm : l.length ≤ 140737488355328 := by simp at hm; omega
    by_cases ha : ∃ v, Lib.atoiAll (u8s l) = .ok v
    · obtain ⟨v, ha⟩ := ha
      have HA := hid (atoi_ok l v hlm ha w)
      have HP : Hid (parseN (k :: l) = if kindOk k = true ∧ idOk v = true ∧ digs v.toNat = l then some (k, v) else none) := parse_ok ha
      have HN := hid (fun s n h w' (hb : Below w.heap.size w w') => nameX k v s n h hk w' (he.1.up hb))
      clear he ha
      by_cases c1 : kindOk k = true
      · by_cases c2 : idOk v = true
        · have e1 : nameN k v = (k :: digs v.toNat, 0) := by unfold nameN; rw [c1, c2]; rfl
          rw [e1] at HN
          have hv : 1 ≤ v ∧ v ≤ 2147483647 := by simpa [idOk] using c2
          by_cases c3 : digs v.toNat = l
          · have HN2 := hid (HN.out (strOfNums (k :: l)) 0 (by rw [c3]))
            rw [HP.out, if_pos ⟨c1, c2, c3⟩]
            have e2 : parR (some (k, v)) = .tuple #[.int .u8 k, .int .i64 v, .bool true] := rfl
            rw [e2]
            clear HN HP c3 e1 c2 c1 hl hv hs hm hk hlm
            generalize strOfNums (k :: l) = S at *
            generalize strOfNums l = S2 at *
            generalize l.length = n at *
            go_enter Tryd.func7, Tryd.ntmps7
            go_wp2_with fail
            refine HA.out.mono ?_
            rintro e w' ⟨rfl, hb⟩
            go_wp2_with fail
            refine (HN2.out w' hb).mono ?_
            rintro e w2 ⟨rfl, hb2⟩
            go_wp2_with fail
            go_ret3
            exact ⟨rfl, hb.trans (hb2.mono hb.size)⟩
          · have hq : strOfNums (k :: digs v.toNat) ≠ strOfNums (k :: l) := by
              intro q
              have := str_inj _ _ (fun x hx => by rcases List.mem_cons.1 hx with rfl | hx; exact hk; exact digs_oct _ x hx) hs q
              injection this with _ this
              exact c3 this
            have hq1 : ¬ (strOfNums (k :: digs v.toNat)).toList = (strOfNums (k :: l)).toList := by
              intro q
              have hd : (strOfNums (k :: digs v.toNat)).data = (strOfNums (k :: l)).data := by
                rw [str_list, str_list] at q
                unfold strOfNums
                simp only
                rw [q]
              exact hq (by cases h1 : strOfNums (k :: digs v.toNat); cases h2 : strOfNums (k :: l); rw [h1, h2] at hd; simp only at hd; rw [hd])
            have HN2 := hid (HN.out (strOfNums (k :: digs v.toNat)) 0 rfl)
            rw [HP.out, if_neg (fun q => c3 q.2.2)]
            have e2 : parR none = .tuple #[.int .u8 0, .int .i64 0, .bool false] := rfl
            rw [e2]
            clear HN HP c3 e1 c2 c1 hl hv hs hm hk hlm hq
            generalize strOfNums (k :: l) = S at *
            generalize strOfNums (k :: digs v.toNat) = S3 at *
            generalize strOfNums l = S2 at *
            generalize l.length = n at *
            have hq2 : (S3.toList == S.toList) = false := by simpa using hq1
            have hq3 : (S3.toList != S.toList) = true := by simpa using hq1
            go_enter Tryd.func7, Tryd.ntmps7
            go_wp2_with fail
            refine HA.out.mono ?_
            rintro e w' ⟨rfl, hb⟩
            go_wp2_with fail
            refine (HN2.out w' hb).mono ?_
            rintro e w2 ⟨rfl, hb2⟩
            go_wp2_with fail
            go_ret3
            exact ⟨rfl, hb.trans (hb2.mono hb.size)⟩
        · have e1 : nameN k v = ([], 4) := by unfold nameN; rw [c1, (by simpa using c2 : idOk v = false)]; rfl
          rw [e1] at HN
          have HN2 := hid (HN.out { data := #[] } 4 rfl)
          rw [HP.out, if_neg (fun q => c2 q.2.1)]
          have e2 : parR none = .tuple #[.int .u8 0, .int .i64 0, .bool false] := rfl
          rw [e2]
          clear HN HP e1 c2 c1 hl hs hm hk hlm
          generalize strOfNums (k :: l) = S at *
          generalize strOfNums l = S2 at *
          generalize l.length = n at *
          go_enter Tryd.func7, Tryd.ntmps7
          go_wp2_with fail
          refine HA.out.mono ?_
          rintro e w' ⟨rfl, hb⟩
          go_wp2_with fail
          refine (HN2.out w' hb).mono ?_
          rintro e w2 ⟨rfl, hb2⟩
          go_wp2_with fail
          go_ret3
          exact ⟨rfl, hb.trans (hb2.mono hb.size)⟩
      · have e1 : nameN k v = ([], 22) := by unfold nameN; rw [(by simpa using c1 : kindOk k = false)]; rfl
        rw [e1] at HN
        have HN2 := hid (HN.out { data := #[] } 22 rfl)
        rw [HP.out, if_neg (fun q => c1 q.1)]
        have e2 : parR none = .tuple #[.int .u8 0, .int .i64 0, .bool false] := rfl
        rw [e2]
        clear HN HP e1 c1 hl hs hm hk hlm
        generalize strOfNums (k :: l) = S at *
        generalize strOfNums l = S2 at *
        generalize l.length = n at *
        go_enter Tryd.func7, Tryd.ntmps7
        go_wp2_with fail
        refine HA.out.mono ?_
        rintro e w' ⟨rfl, hb⟩
        go_wp2_with fail
        refine (HN2.out w' hb).mono ?_
        rintro e w2 ⟨rfl, hb2⟩
        go_wp2_with fail
        go_ret3
        exact ⟨rfl, hb.trans (hb2.mono hb.size)⟩
    · have ha2 : ∀ v, Lib.atoiAll (u8s l) ≠ .ok v := fun v h => ha ⟨v, h⟩
      have HA := hid (atoi_no l hlm ha2 w he.2)
      rw [parse_no ha2]
      have e2 : parR none = .tuple #[.int .u8 0, .int .i64 0, .bool false] := rfl
      rw [e2]
      clear he ha ha2 hl hs hm hk hlm
      generalize strOfNums (k :: l) = S at *
      generalize strOfNums l = S2 at *
      generalize l.length = n at *
      go_enter Tryd.func7, Tryd.ntmps7
      go_wp2_with fail
      refine HA.out.mono ?_
      rintro e w' ⟨m, M, rfl, hb⟩
      go_wp2_with fail
      go_ret3
      exact ⟨rfl, hb⟩
end Go.Proofs.YtnchjlimkgbfpaaDoor

/- Names that are needed: what the page says, and the program's set of them. -/
namespace Go.Proofs.YtnchjlimkgbfpaaDoor
open Go.RowKit
set_option linter.unusedVariables false
set_option linter.unusedSimpArgs false

/-! ### what is needed -/
def curN : List Int := [67, 85, 82, 82, 69, 78, 84]
/-- What the page asks of a name. -/
def needOf (ids : List Int) (id log : Int) (x : List Int) : Bool := decide (x = curN) || match parseN x with
  | none => false
  | some (k, n) => (decide (k = 109) && decide (n = id)) || ((decide (k = 108) && decide (log ≤ n)) || (decide (k = 116) && decide (n ∈ ids)))
/-- A number's name is put among those that are needed, if it has one. -/
def putN (l : List (List Int)) (k id : Int) : List (List Int) := if (nameN k id).2 = 0 then addN l (nameN k id).1 else l
theorem name_zero {k id : Int} : (nameN k id).2 = 0 ↔ kindOk k = true ∧ idOk id = true := by
  unfold nameN
  cases kindOk k <;> cases idOk id <;> simp
theorem name_good {k id : Int} (h1 : kindOk k = true) (h2 : idOk id = true) : nameN k id = (k :: digs id.toNat, 0) := by
  unfold nameN
  rw [h1, h2]; rfl
theorem mem_putN {l : List (List Int)} {k id : Int} (hk : kindOk k = true) {y : List Int} : y ∈ putN l k id ↔ y ∈ l ∨ parseN y = some (k, id) := by
  unfold putN
  by_cases h : idOk id = true
  · rw [if_pos (name_zero.2 ⟨hk, h⟩), mem_addN, name_good hk h]
    constructor
    · rintro (q | rfl)
      · exact .inl q
      · exact .inr (parse_name hk h)
    · rintro (q | q)
      · exact .inl q
      · exact .inr (name_parse q).2.2
  · rw [if_neg (fun q => h (name_zero.1 q).2)]
    constructor
    · exact .inl
    · rintro (q | q)
      · exact q
      · exact absurd (name_parse q).2.1 h
def needL (ids : List Int) (id : Int) : List (List Int) := ids.foldl (fun l i => putN l 116 i) (putN [curN] 109 id)
theorem needL_snoc (ids : List Int) (i id : Int) : needL (ids ++ [i]) id = putN (needL ids id) 116 i := by
  unfold needL
  rw [List.foldl_append]; rfl
theorem mem_needL : ∀ (ids : List Int) (id : Int) (y : List Int), y ∈ needL ids id ↔ y = curN ∨ parseN y = some (109, id) ∨ ∃ i ∈ ids, parseN y = some (116, i) := by
  have key : ∀ (ids : List Int) (l : List (List Int)) (y : List Int), y ∈ ids.foldl (fun l i => putN l 116 i) l ↔ y ∈ l ∨ ∃ i ∈ ids, parseN y = some (116, i) := by
    intro ids
    induction ids with
    | nil => intro l y; simp
    | cons a r ih =>
      intro l y
      rw [List.foldl_cons, ih, mem_putN rfl]
      constructor
      · rintro ((q | q) | ⟨i, hi, q⟩)
        · exact .inl q
        · exact .inr ⟨a, List.mem_cons_self, q⟩
        · exact .inr ⟨i, List.mem_cons_of_mem _ hi, q⟩
      · rintro (q | ⟨i, hi, q⟩)
        · exact .inl (.inl q)
        · rcases List.mem_cons.1 hi with rfl | hi
          · exact .inl (.inr q)
          · exact .inr ⟨i, hi, q⟩
  intro ids id y
  unfold needL
  rw [key, mem_putN rfl, List.mem_singleton, or_assoc]
theorem putN_len (l : List (List Int)) (k id : Int) : (putN l k id).length ≤ l.length + 1 := by
  unfold putN addN
  split
  · split
    · omega
    · simp
  · omega
theorem needL_len (ids : List Int) (id : Int) : (needL ids id).length ≤ ids.length + 2 := by
  have key : ∀ (ids : List Int) (l : List (List Int)), (ids.foldl (fun l i => putN l 116 i) l).length ≤ l.length + ids.length := by
    intro ids
    induction ids with
    | nil => intro l; simp
    | cons a r ih =>
      intro l
      have h1 := ih (putN l 116 a)
      have h2 := putN_len l 116 a
      simp only [List.foldl_cons, List.length_cons]
      omega
  have h1 := key ids (putN [curN] 109 id)
  have h2 := putN_len [curN] 109 id
  unfold needL
  simp only [List.length_singleton] at h2
  omega
/-- What the program's closure says. -/
def logOf (log : Int) (x : List Int) : Bool := match parseN x with
  | none => false
  | some (k, n) => decide (k = 108) && decide (log ≤ n)
theorem need_eq (ids : List Int) (id log : Int) (x : List Int) : (decide (x ∈ needL ids id) || logOf log x) = needOf ids id log x := by
  rw [Bool.eq_iff_iff]
  simp only [Bool.or_eq_true, decide_eq_true_eq, mem_needL, needOf, logOf]
  cases h : parseN x with
  | none => simp
  | some q =>
    obtain ⟨k, n⟩ := q
    simp only [Option.some.injEq, Prod.mk.injEq, Bool.or_eq_true, Bool.and_eq_true, decide_eq_true_eq]
    constructor
    · rintro ((q | q | ⟨i, hi, q1, q2⟩) | q)
      · exact .inl q
      · exact .inr (.inl q)
      · exact .inr (.inr (.inr ⟨q1, by rw [q2]; exact hi⟩))
      · exact .inr (.inr (.inl q))
    · rintro (q | q | q | q)
      · exact .inl (.inl q)
      · exact .inl (.inr (.inl q))
      · exact .inr q
      · exact .inl (.inr (.inr ⟨n, q.2, q.1, rfl⟩))
theorem putN_oct {l : List (List Int)} (hl : OctN l) {k : Int} (hk : 0 ≤ k ∧ k ≤ 255) (id : Int) : OctN (putN l k id) := by
  unfold putN
  split
  · rename_i h
    have h := name_zero.1 h
    rw [name_good h.1 h.2]
    refine addN_oct hl fun y hy => ?_
    rcases List.mem_cons.1 hy with rfl | hy
    · exact hk
    · exact digs_oct _ y hy
  · exact hl
theorem nameN_oct (k id : Int) (hk : 0 ≤ k ∧ k ≤ 255) : (∀ y ∈ (nameN k id).1, 0 ≤ y ∧ y ≤ 255) ∧ (nameN k id).1.length ≤ 11 := by
  by_cases h1 : kindOk k = true
  · by_cases h2 : idOk id = true
    · rw [name_good h1 h2]
      have h3 : 1 ≤ id ∧ id ≤ 2147483647 := by simpa [idOk] using h2
      have hl := digs_len 10 id.toNat (by omega)
      refine ⟨fun y hy => ?_, by simp only [List.length_cons]; omega⟩
      rcases List.mem_cons.1 hy with rfl | hy
      · exact hk
      · exact digs_oct _ y hy
    · unfold nameN
      rw [h1, (by simpa using h2 : idOk id = false)]
      simp
  · unfold nameN
    rw [(by simpa using h1 : kindOk k = false)]
    simp
set_option maxHeartbeats 1000000 in
set_option maxRecDepth 20000 in
theorem need1_any (k id : Int) (hk : 0 ≤ k ∧ k ≤ 255) (C b : Nat) (l : List (List Int)) (w : World) (hc : w.cell? ⟨C, 0, none⟩ = some (.map (some b))) (hs : SetN w b l) (hn : l.length < 4611686018427387904) (ht : Tab w) :
    Calls Tryd.prog 30 #[.int .u8 k, .int .i64 id, .pointer (some ⟨C, 0, none⟩)] w fun e w' => e = .returned (.tuple #[]) ∧ Hid (SetN w' b (putN l k id)) ∧ Hid (w.grownBy w' (some b)) := by
  obtain ⟨S, hS⟩ : ∃ S, S = (nameN k id).1 := ⟨_, rfl⟩
  obtain ⟨f, hf⟩ : ∃ f, f = (nameN k id).2 := ⟨_, rfl⟩
  have HN := hid (nameX k id (strOfNums S) f (by rw [hS, hf]) hk w ht)
  have hoct := nameN_oct k id hk
  rw [← hS] at hoct
  have HO := hid hoct
  have HS : Hid (SetN w b l) := hs
  have hcw := World.block_lt_of_cell? w _ hc
  have HP : Hid (putN l k id = if f = 0 then addN l S else l) := by unfold putN Hid; rw [hS, hf]
  have HNL : Hid (l.length < maxLen) := by unfold Hid maxLen; omega
  clear ht hoct hs hS hf
  generalize hP : putN l k id = PN at *
  clear hP
  by_cases c : f = 0
  · subst c
    have HP2 : Hid (PN = addN l S) := by unfold Hid; rw [HP.out, if_pos rfl]
    clear HP
    go_enter Tryd.func30, Tryd.ntmps30
    go_wp2_with fail
    refine HN.out.mono ?_
    rintro e w1 ⟨rfl, hb⟩
    have hc1 := (hb.cell (p := ⟨C, 0, none⟩) hcw).trans hc
    have HS1 : Hid (SetN w1 b l) := HS.out.up hb
    have HB : Hid (Below w.heap.size w w1) := hb
    clear hb
    go_wp2_with (at_mapUpdate; refine wpList_setN_put _ rfl _ _ _ rfl b l rfl HS1.out HNL.out S HO.out.1 (by have := HO.out.2; unfold maxLen; omega) rfl rfl ?_; intro w2 hset2 hgrow2)
    go_end0
    exact ⟨rfl, by rw [HP2.out]; exact hset2, grown_trans (grown_up HB.out _) hgrow2⟩
  · have cb : (f == 0) = false := by simpa using c
    have HP2 : Hid (PN = l) := by unfold Hid; rw [HP.out, if_neg c]
    clear HP
    go_enter Tryd.func30, Tryd.ntmps30
    go_wp2_with fail
    refine HN.out.mono ?_
    rintro e w1 ⟨rfl, hb⟩
    have HS1 : Hid (SetN w1 b l) := HS.out.up hb
    have HB : Hid (Below w.heap.size w w1) := hb
    clear hb
    go_wp2_with fail
    go_end0
    exact ⟨rfl, by rw [HP2.out]; exact HS1.out, grown_up HB.out _⟩
end Go.Proofs.YtnchjlimkgbfpaaDoor

/- Versions of layer 7: what may stand, and which comes first. -/
namespace Go.Proofs.YtnchjlimkgbfpaaDoor
open Go.RowKit
set_option linter.unusedVariables false

structure En where
  key : ByteArray
  seq : Int
  kind : Int
  val : ByteArray
def enV (a : En) : Value := .agg #[.string a.key, .int .i64 a.seq, .int .i64 a.kind, .string a.val]
def enRow (a : En) : List Value := [.string a.key, .int .i64 a.seq, .int .i64 a.kind, .string a.val]
/-- Which of two versions comes first. -/
def beforeE (a b : En) : Bool := Op.bytesLess a.key.toList b.key.toList || ((a.key.toList == b.key.toList) && decide (b.seq < a.seq))

/-- May a version stand? -/
def mayE (a : En) : Bool := decide (1 ≤ (a.key.size : Int) ∧ (a.key.size : Int) ≤ 96 ∧ 1 ≤ a.seq ∧ a.seq ≤ 1099511627776 ∧ (a.kind = 1 ∨ a.kind = 2) ∧ (a.val.size : Int) ≤ 512 ∧ (a.kind = 1 ∨ a.val.toList = []))

end Go.Proofs.YtnchjlimkgbfpaaDoor
