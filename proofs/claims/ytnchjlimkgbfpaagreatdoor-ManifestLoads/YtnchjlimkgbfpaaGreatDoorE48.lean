/- The texts HSet, HNeed, HNed, HOrp, in this order. -/
import Derived.Test.YtnchjlimkgbfpaaGreatDoorE02
import Derived.Maps.OwnSet
import Derived.StringKeys
import Derived.Test.YtnchjlimkgbfpaaGreatDoorE12
import Derived.Test.YtnchjlimkgbfpaaGreatDoorE15
import Derived.Deep.Cut
import Derived.Test.YtnchjlimkgbfpaaGreatDoorE22

namespace Go.Proofs.YtnchjlimkgbfpaaGreatDoor
open Go.RowKit
set_option linter.unusedVariables false
set_option linter.unusedSimpArgs false
theorem strLit_inj {s t : List UInt8} (h : Lit.string s = Lit.string t) : s = t := by injection h
def addS (l : List (List UInt8)) (x : List UInt8) : List (List UInt8) := if x ∈ l then l else l ++ [x]
def SetS (P : Program) (k : TypeId) (w : World) (b : Nat) (l : List (List UInt8)) : Prop := ∃ D : DataW Unit, w.ownsMap P k unitElem b l.length D ∧ Maps.Tidy D ∧ Maps.size D = l.length ∧ ∀ x, Maps.has D (Lit.string x) = decide (x ∈ l)
theorem own_tightS {P : Program} {k : TypeId} {w : World} {b n : Nat} {D : DataW Unit} (h : w.ownsMap P k unitElem b n D) : w.ownsMap P k unitElem b (Maps.size D) D := by
  obtain ⟨es, clock, hb, F, hs, rfl⟩ := h
  exact ⟨es, clock, hb, F, by simp [Maps.size, length_sorted], rfl⟩
theorem SetS.made (P : Program) (k : TypeId) (w : World) : SetS P k (w.alloc (.map #[] 0)) w.heap.size [] :=
  ⟨.map [], World.ownsMap_made w P k unitElem, Maps.tidy_empty, rfl, fun x => rfl⟩
theorem SetS.lt {P : Program} {k : TypeId} {w : World} {b : Nat} {l : List (List UInt8)} (h : SetS P k w b l) : b < w.heap.size := by
  obtain ⟨D, h1, _⟩ := h
  exact h1.lt
theorem SetS.kept {P : Program} {k : TypeId} {w w' : World} {b : Nat} {l : List (List UInt8)} {r : Option Nat} (h : SetS P k w b l) (hg : w.grownBy w' r) (hne : some b ≠ r) : SetS P k w' b l := by
  obtain ⟨D, h1, h2⟩ := h
  exact ⟨D, h1.kept hg hne, h2⟩
theorem SetS.up {P : Program} {k : TypeId} {w w' : World} {b : Nat} {l : List (List UInt8)} (h : SetS P k w b l) (hb : Below w.heap.size w w') : SetS P k w' b l := by
  obtain ⟨D, ⟨es, clock, hh, r⟩, h2⟩ := h
  exact ⟨D, ⟨es, clock, (hb.block b (Array.getElem?_eq_some_iff.1 hh).1).trans hh, r⟩, h2⟩
theorem SetS.put {P : Program} {k : TypeId} {w' : World} {b : Nat} {l : List (List UInt8)} {x : List UInt8} {D : DataW Unit} (h2 : Maps.Tidy D) (h3 : Maps.size D = l.length) (h4 : ∀ y, Maps.has D (Lit.string y) = decide (y ∈ l))
    (h : w'.ownsMap P k unitElem b (l.length + 1) (D.put (Lit.string x) (.agg []))) : SetS P k w' b (addS l x) := by
  have hk : WideAt.IsKeyLit (Lit.string x) := trivial
  have hsz : Maps.size (D.put (Lit.string x) (.agg [])) = (addS l x).length := by
    rw [Maps.size_put h2, h4 x, h3]
    unfold addS
    by_cases q : x ∈ l
    · rw [if_pos q, if_pos (by simpa using q)]
    · rw [if_neg q, if_neg (by simpa using q)]; simp
  refine ⟨D.put (Lit.string x) (.agg []), ?_, h2.put hk _, hsz, fun y => ?_⟩
  · have := own_tightS h
    rw [hsz] at this
    exact this
  · by_cases e : y = x
    · subst e
      rw [Maps.has_put_same h2.isMap hk]
      unfold addS
      by_cases q : y ∈ l
      · rw [if_pos q]; simp [q]
      · rw [if_neg q]; simp
    · rw [Maps.has_put_other (fun q => e (strLit_inj q)), h4 y]
      unfold addS
      by_cases q : x ∈ l
      · rw [if_pos q]
      · rw [if_neg q]; simp [e]
theorem wpList_setS_put {P : Program} {k t e : TypeId} (hk : P.underlying k = some .string) (ht : P.underlying t = some (.map k e)) (w : World) {ops : Array Oper} {rest : List Oper} {o : Oper} {a : Act} {Q : Exit → Act → World → Prop} (hgd : o.guard = none) (m x v : Operand) (hop : o.op = Op.mapUpdate t m x v)
    (b : Nat) (l : List (List UInt8)) (hm : a.eval m = .map (some b)) (hs : SetS P k w b l) (hn : l.length < maxLen) (s : ByteArray) (hz : s.size ≤ maxLen) (hx : a.eval x = .string s) (hv : a.eval v = .agg #[])
    (hK : ∀ w', SetS P k w' b (addS l s.data.toList) → w.grownBy w' (some b) → wpList P ops Q rest (a.put o.dst undef) w') : wpList P ops Q (o :: rest) a w := by
  obtain ⟨D, h1, h2, h3, h4⟩ := hs
  refine wpList_mapUpdate_own w hgd m x v t hop k e (Maps.string_keyed hk) ht unitElem b l.length D hm h1 hn _ _ (.string s.data.toList) hx hv (WideMaps.keyOf_string_mk hk hz) (.agg []) [] unitElem_mk ?_
  intro w' r1 r2
  exact hK w' (SetS.put h2 h3 h4 r1) r2
theorem wpList_setS_look {P : Program} {k t e : TypeId} (hk : P.underlying k = some .string) (ht : P.underlying t = some (.map k e)) (w : World) (hz0 : (zeroValue e).run P w = .ok (.agg #[]) w) {ops : Array Oper} {rest : List Oper} {o : Oper} {a : Act} {Q : Exit → Act → World → Prop} (hgd : o.guard = none) (m x : Operand) (hop : o.op = Op.lookup t m x true)
    (b : Nat) (l : List (List UInt8)) (hm : a.eval m = .map (some b)) (hs : SetS P k w b l) (s : ByteArray) (hz : s.size ≤ maxLen) (hx : a.eval x = .string s)
    (hK : wpList P ops Q rest (a.put o.dst (.tuple #[.agg #[], .bool (decide (s.data.toList ∈ l))])) w) : wpList P ops Q (o :: rest) a w := by
  obtain ⟨D, h1, h2, h3, h4⟩ := hs
  refine wpList_lookup_own_unit w hgd m x t hop k e (Maps.string_keyed hk) ht hz0 b l.length D hm h1 (.string s) (.string s.data.toList) hx (WideMaps.keyOf_string_mk hk hz) ?_
  rw [h4 s.data.toList]
  exact hK
theorem wpList_setS_ins {P : Program} {k t e : TypeId} (hk : P.underlying k = some .string) (ht : P.underlying t = some (.map k e)) (w : World) {ops : Array Oper} {rest : List Oper} {o : Oper} {a : Act} {Q : Exit → Act → World → Prop} (hgd : o.guard = none) (m x v : Operand) (hop : o.op = Op.insert t m x v)
    (b : Nat) (l : List (List UInt8)) (hm : a.eval m = .map (some b)) (hs : SetS P k w b l) (hn : l.length < maxLen) (s : ByteArray) (hz : s.size ≤ maxLen) (hx : a.eval x = .string s) (hv : a.eval v = .agg #[])
    (hK : ∀ w', SetS P k w' b (addS l s.data.toList) → w.grownBy w' (some b) → wpList P ops Q rest (a.put o.dst undef) w') : wpList P ops Q (o :: rest) a w := by
  obtain ⟨D, h1, h2, h3, h4⟩ := hs
  refine wpList_plain hgd fun K' hK' => ?_
  obtain ⟨w', hrun, r1, r2⟩ := h1.update (Maps.string_keyed hk) ht hn (WideMaps.keyOf_string_mk hk hz) (unitElem_mk)
  unfold Oper.wp
  simp [execOp, hop, hm, hx, hv, hrun, Result.andThen]
  exact hK' _ _ (hK w' (SetS.put h2 h3 h4 r1) r2)
theorem str_u8s (l : List Int) : (strOfNums l).data.toList = u8s l := by simp [strOfNums, u8s]
theorem u8s_inj {a b : List Int} (ha : ∀ x ∈ a, 0 ≤ x ∧ x ≤ 255) (hb : ∀ x ∈ b, 0 ≤ x ∧ x ≤ 255) (h : u8s a = u8s b) : a = b := by
  have e : strOfNums a = strOfNums b := by
    unfold strOfNums
    unfold u8s at h
    simp [h]
  rw [← nums_str a ha, ← nums_str b hb, e]
def OctN (l : List (List Int)) : Prop := ∀ x ∈ l, ∀ y ∈ x, 0 ≤ y ∧ y ≤ 255
theorem mem_u8s {l : List (List Int)} (hl : OctN l) {x : List Int} (hx : ∀ y ∈ x, 0 ≤ y ∧ y ≤ 255) : u8s x ∈ l.map u8s ↔ x ∈ l := by
  constructor
  · intro h
    obtain ⟨y, hy, e⟩ := List.mem_map.1 h
    have := u8s_inj (hl y hy) hx e
    rw [← this]; exact hy
  · intro h
    exact List.mem_map.2 ⟨x, h, rfl⟩
def SetN (w : World) (b : Nat) (l : List (List Int)) : Prop := OctN l ∧ SetS Tryz.prog 9 w b (l.map u8s)
theorem SetN.lt {w : World} {b : Nat} {l : List (List Int)} (h : SetN w b l) : b < w.heap.size := h.2.lt
theorem SetN.up {w w' : World} {b : Nat} {l : List (List Int)} (h : SetN w b l) (hb : Below w.heap.size w w') : SetN w' b l := ⟨h.1, h.2.up hb⟩
theorem SetN.kept {w w' : World} {b : Nat} {l : List (List Int)} {r : Option Nat} (h : SetN w b l) (hg : w.grownBy w' r) (hne : some b ≠ r) : SetN w' b l := ⟨h.1, h.2.kept hg hne⟩
def addN (l : List (List Int)) (x : List Int) : List (List Int) := if x ∈ l then l else l ++ [x]
theorem mem_addN {l : List (List Int)} {x y : List Int} : y ∈ addN l x ↔ y ∈ l ∨ y = x := by
  unfold addN
  by_cases h : x ∈ l
  · rw [if_pos h]
    constructor
    · exact .inl
    · rintro (h2 | rfl)
      · exact h2
      · exact h
  · rw [if_neg h]; simp
theorem addN_map {l : List (List Int)} (hl : OctN l) {x : List Int} (hx : ∀ y ∈ x, 0 ≤ y ∧ y ≤ 255) : addS (l.map u8s) (u8s x) = (addN l x).map u8s := by
  unfold addS addN
  by_cases h : x ∈ l
  · rw [if_pos h, if_pos ((mem_u8s hl hx).2 h)]
  · rw [if_neg h, if_neg (fun q => h ((mem_u8s hl hx).1 q))]; simp
theorem addN_oct {l : List (List Int)} (hl : OctN l) {x : List Int} (hx : ∀ y ∈ x, 0 ≤ y ∧ y ≤ 255) : OctN (addN l x) := by
  intro y hy
  rcases mem_addN.1 hy with h | rfl
  · exact hl y h
  · exact hx
theorem SetN.cell_ne {w : World} {b C i : Nat} {l : List (List Int)} {v : Value} (h : SetN w b l) (hc : w.cell? ⟨C, i, none⟩ = some v) : C ≠ b := by
  intro e
  subst e
  obtain ⟨D, ⟨es, clock, hh, _⟩, _⟩ := h.2
  simp [World.cell?, hh] at hc
theorem zero131 (w : World) : (zeroValue 131).run Tryz.prog w = .ok (.agg #[]) w := by kernel_rfl
theorem wpList_setN_put (w : World) {ops : Array Oper} {rest : List Oper} {o : Oper} {a : Act} {Q : Exit → Act → World → Prop} (hgd : o.guard = none) (m x v : Operand) (hop : o.op = Op.mapUpdate 128 m x v)
    (b : Nat) (l : List (List Int)) (hm : a.eval m = .map (some b)) (hs : SetN w b l) (hn : l.length < maxLen) (s : List Int) (ho : ∀ y ∈ s, 0 ≤ y ∧ y ≤ 255) (hz : s.length ≤ maxLen) (hx : a.eval x = .string (strOfNums s)) (hv : a.eval v = .agg #[])
    (hK : ∀ w', SetN w' b (addN l s) → w.grownBy w' (some b) → wpList Tryz.prog ops Q rest (a.put o.dst undef) w') : wpList Tryz.prog ops Q (o :: rest) a w := by
  refine wpList_setS_put Tryz.underlying9 Tryz.underlying128 w hgd m x v hop b _ hm hs.2 (by rw [List.length_map]; exact hn) (strOfNums s) (by rw [strOfNums_size]; exact hz) hx hv ?_
  intro w' h1 h2
  rw [str_u8s, addN_map hs.1 ho] at h1
  exact hK w' ⟨addN_oct hs.1 ho, h1⟩ h2
theorem wpList_setN_ins (w : World) {ops : Array Oper} {rest : List Oper} {o : Oper} {a : Act} {Q : Exit → Act → World → Prop} (hgd : o.guard = none) (m x v : Operand) (hop : o.op = Op.insert 128 m x v)
    (b : Nat) (l : List (List Int)) (hm : a.eval m = .map (some b)) (hs : SetN w b l) (hn : l.length < maxLen) (s : List Int) (ho : ∀ y ∈ s, 0 ≤ y ∧ y ≤ 255) (hz : s.length ≤ maxLen) (hx : a.eval x = .string (strOfNums s)) (hv : a.eval v = .agg #[])
    (hK : ∀ w', SetN w' b (addN l s) → w.grownBy w' (some b) → wpList Tryz.prog ops Q rest (a.put o.dst undef) w') : wpList Tryz.prog ops Q (o :: rest) a w := by
  refine wpList_setS_ins Tryz.underlying9 Tryz.underlying128 w hgd m x v hop b _ hm hs.2 (by rw [List.length_map]; exact hn) (strOfNums s) (by rw [strOfNums_size]; exact hz) hx hv ?_
  intro w' h1 h2
  rw [str_u8s, addN_map hs.1 ho] at h1
  exact hK w' ⟨addN_oct hs.1 ho, h1⟩ h2
theorem wpList_setN_look (w : World) {ops : Array Oper} {rest : List Oper} {o : Oper} {a : Act} {Q : Exit → Act → World → Prop} (hgd : o.guard = none) (m x : Operand) (hop : o.op = Op.lookup 128 m x true)
    (b : Nat) (l : List (List Int)) (hm : a.eval m = .map (some b)) (hs : SetN w b l) (s : List Int) (ho : ∀ y ∈ s, 0 ≤ y ∧ y ≤ 255) (hz : s.length ≤ maxLen) (hx : a.eval x = .string (strOfNums s))
    (hK : wpList Tryz.prog ops Q rest (a.put o.dst (.tuple #[.agg #[], .bool (decide (s ∈ l))])) w) : wpList Tryz.prog ops Q (o :: rest) a w := by
  refine wpList_setS_look Tryz.underlying9 Tryz.underlying128 w (zero131 w) hgd m x hop b _ hm hs.2 (strOfNums s) (by rw [strOfNums_size]; exact hz) hx ?_
  have e : decide ((strOfNums s).data.toList ∈ l.map u8s) = decide (s ∈ l) := by
    rw [str_u8s]
    by_cases h : s ∈ l
    · rw [decide_eq_true h, decide_eq_true ((mem_u8s hs.1 ho).2 h)]
    · rw [decide_eq_false h, decide_eq_false (fun q => h ((mem_u8s hs.1 ho).1 q))]
  rw [e]
  exact hK
end Go.Proofs.YtnchjlimkgbfpaaGreatDoor

namespace Go.Proofs.YtnchjlimkgbfpaaGreatDoor
open Go.RowKit
set_option linter.unusedVariables false
set_option linter.unusedSimpArgs false
def curN : List Int := [67, 85, 82, 82, 69, 78, 84]
def needOf (ids : List Int) (id log : Int) (x : List Int) : Bool := decide (x = curN) || match parseN x with
  | none => false
  | some (k, n) => (decide (k = 109) && decide (n = id)) || ((decide (k = 108) && decide (log ≤ n)) || (decide (k = 116) && decide (n ∈ ids)))
def putN (l : List (List Int)) (k id : Int) : List (List Int) := if (nameN k id).2 = 0 then addN l (nameN k id).1 else l
theorem name_zero {k id : Int} : (nameN k id).2 = 0 ↔ kindOk k = true ∧ idOk id = true := by
  unfold nameN
  cases kindOk k <;> cases idOk id <;> simp
theorem name_good {k id : Int} (h1 : kindOk k = true) (h2 : idOk id = true) : nameN k id = (k :: digs id.toNat, 0) := by
  unfold nameN
  rw [h1, h2]; rfl
theorem mem_putN {l : List (List Int)} {k id : Int} (hk : kindOk k = true) {y : List Int} : y ∈ putN l k id ↔ y ∈ l ∨ parseN y = some (k, id) := by
  unfold putN
  by_cases h : idOk id = true
  · rw [if_pos (name_zero.2 ⟨hk, h⟩), mem_addN, name_good hk h]
    constructor
    · rintro (q | rfl)
      · exact .inl q
      · exact .inr (parse_name hk h)
    · rintro (q | q)
      · exact .inl q
      · exact .inr (name_parse q).2.2
  · rw [if_neg (fun q => h (name_zero.1 q).2)]
    constructor
    · exact .inl
    · rintro (q | q)
      · exact q
      · exact absurd (name_parse q).2.1 h
def needL (ids : List Int) (id : Int) : List (List Int) := ids.foldl (fun l i => putN l 116 i) (putN [curN] 109 id)
theorem needL_snoc (ids : List Int) (i id : Int) : needL (ids ++ [i]) id = putN (needL ids id) 116 i := by
  unfold needL
  rw [List.foldl_append]; rfl
theorem mem_needL : ∀ (ids : List Int) (id : Int) (y : List Int), y ∈ needL ids id ↔ y = curN ∨ parseN y = some (109, id) ∨ ∃ i ∈ ids, parseN y = some (116, i) := by
  have key : ∀ (ids : List Int) (l : List (List Int)) (y : List Int), y ∈ ids.foldl (fun l i => putN l 116 i) l ↔ y ∈ l ∨ ∃ i ∈ ids, parseN y = some (116, i) := by
    intro ids
    induction ids with
    | nil => intro l y; simp
    | cons a r ih =>
      intro l y
      rw [List.foldl_cons, ih, mem_putN rfl]
      constructor
      · rintro ((q | q) | ⟨i, hi, q⟩)
        · exact .inl q
        · exact .inr ⟨a, List.mem_cons_self, q⟩
        · exact .inr ⟨i, List.mem_cons_of_mem _ hi, q⟩
      · rintro (q | ⟨i, hi, q⟩)
        · exact .inl (.inl q)
        · rcases List.mem_cons.1 hi with rfl | hi
          · exact .inl (.inr q)
          · exact .inr ⟨i, hi, q⟩
  intro ids id y
  unfold needL
  rw [key, mem_putN rfl, List.mem_singleton, or_assoc]
theorem putN_len (l : List (List Int)) (k id : Int) : (putN l k id).length ≤ l.length + 1 := by
  unfold putN addN
  split
  · split
    · omega
    · simp
  · omega
theorem needL_len (ids : List Int) (id : Int) : (needL ids id).length ≤ ids.length + 2 := by
  have key : ∀ (ids : List Int) (l : List (List Int)), (ids.foldl (fun l i => putN l 116 i) l).length ≤ l.length + ids.length := by
    intro ids
    induction ids with
    | nil => intro l; simp
    | cons a r ih =>
      intro l
      have h1 := ih (putN l 116 a)
      have h2 := putN_len l 116 a
      simp only [List.foldl_cons, List.length_cons]
      omega
  have h1 := key ids (putN [curN] 109 id)
  have h2 := putN_len [curN] 109 id
  unfold needL
  simp only [List.length_singleton] at h2
  omega
def logOf (log : Int) (x : List Int) : Bool := match parseN x with
  | none => false
  | some (k, n) => decide (k = 108) && decide (log ≤ n)
theorem need_eq (ids : List Int) (id log : Int) (x : List Int) : (decide (x ∈ needL ids id) || logOf log x) = needOf ids id log x := by
  rw [Bool.eq_iff_iff]
  simp only [Bool.or_eq_true, decide_eq_true_eq, mem_needL, needOf, logOf]
  cases h : parseN x with
  | none => simp
  | some q =>
    obtain ⟨k, n⟩ := q
    simp only [Option.some.injEq, Prod.mk.injEq, Bool.or_eq_true, Bool.and_eq_true, decide_eq_true_eq]
    constructor
    · rintro ((q | q | ⟨i, hi, q1, q2⟩) | q)
      · exact .inl q
      · exact .inr (.inl q)
      · exact .inr (.inr (.inr ⟨q1, by rw [q2]; exact hi⟩))
      · exact .inr (.inr (.inl q))
    · rintro (q | q | q | q)
      · exact .inl (.inl q)
      · exact .inl (.inr (.inl q))
      · exact .inr q
      · exact .inl (.inr (.inr ⟨n, q.2, q.1, rfl⟩))
theorem nameN_oct (k id : Int) (hk : 0 ≤ k ∧ k ≤ 255) : (∀ y ∈ (nameN k id).1, 0 ≤ y ∧ y ≤ 255) ∧ (nameN k id).1.length ≤ 11 := by
  by_cases h1 : kindOk k = true
  · by_cases h2 : idOk id = true
    · rw [name_good h1 h2]
      have h3 : 1 ≤ id ∧ id ≤ 2147483647 := by simpa [idOk] using h2
      have hl := digs_len 10 id.toNat (by omega)
      refine ⟨fun y hy => ?_, by simp only [List.length_cons]; omega⟩
      rcases List.mem_cons.1 hy with rfl | hy
      · exact hk
      · exact digs_oct _ y hy
    · unfold nameN
      rw [h1, (by simpa using h2 : idOk id = false)]
      simp
  · unfold nameN
    rw [(by simpa using h1 : kindOk k = false)]
    simp
set_option maxHeartbeats 1000000 in
set_option maxRecDepth 20000 in
theorem need1_any (k id : Int) (hk : 0 ≤ k ∧ k ≤ 255) (C b : Nat) (l : List (List Int)) (w : World) (hc : w.cell? ⟨C, 0, none⟩ = some (.map (some b))) (hs : SetN w b l) (hn : l.length < 4611686018427387904) (ht : Tab w) :
    Calls Tryz.prog 101 #[.int .u8 k, .int .i64 id, .pointer (some ⟨C, 0, none⟩)] w fun e w' => e = .returned (.tuple #[]) ∧ Hid (SetN w' b (putN l k id)) ∧ Hid (w.grownBy w' (some b)) := by
  obtain ⟨S, hS⟩ : ∃ S, S = (nameN k id).1 := ⟨_, rfl⟩
  obtain ⟨f, hf⟩ : ∃ f, f = (nameN k id).2 := ⟨_, rfl⟩
  have HN := hid (nameX k id (strOfNums S) f (by rw [hS, hf]) hk w ht)
  have hoct := nameN_oct k id hk
  rw [← hS] at hoct
  have HO := hid hoct
  have HS : Hid (SetN w b l) := hs
  have hcw := World.block_lt_of_cell? w _ hc
  have HP : Hid (putN l k id = if f = 0 then addN l S else l) := by unfold putN Hid; rw [hS, hf]
  have HNL : Hid (l.length < maxLen) := by unfold Hid maxLen; omega
  clear ht hoct hs hS hf
  generalize hP : putN l k id = PN at *
  clear hP
  by_cases c : f = 0
  · subst c
    have HP2 : Hid (PN = addN l S) := by unfold Hid; rw [HP.out, if_pos rfl]
    clear HP
    go_enter Tryz.func101, Tryz.ntmps101
    go_wp2_with fail
    refine HN.out.mono ?_
    rintro e w1 ⟨rfl, hb⟩
    have hc1 := (hb.cell (p := ⟨C, 0, none⟩) hcw).trans hc
    have HS1 : Hid (SetN w1 b l) := HS.out.up hb
    have HB : Hid (Below w.heap.size w w1) := hb
    clear hb
    go_wp2_with (at_mapUpdate; refine wpList_setN_put _ rfl _ _ _ rfl b l rfl HS1.out HNL.out S HO.out.1 (by have := HO.out.2; unfold maxLen; omega) rfl rfl ?_; intro w2 hset2 hgrow2)
    go_end0
    exact ⟨rfl, by rw [HP2.out]; exact hset2, grown_trans (grown_up HB.out _) hgrow2⟩
  · have cb : (f == 0) = false := by simpa using c
    have HP2 : Hid (PN = l) := by unfold Hid; rw [HP.out, if_neg c]
    clear HP
    go_enter Tryz.func101, Tryz.ntmps101
    go_wp2_with fail
    refine HN.out.mono ?_
    rintro e w1 ⟨rfl, hb⟩
    have HS1 : Hid (SetN w1 b l) := HS.out.up hb
    have HB : Hid (Below w.heap.size w w1) := hb
    clear hb
    go_wp2_with fail
    go_end0
    exact ⟨rfl, by rw [HP2.out]; exact HS1.out, grown_up HB.out _⟩
end Go.Proofs.YtnchjlimkgbfpaaGreatDoor

namespace Go.Proofs.YtnchjlimkgbfpaaGreatDoor
open Go.RowKit
set_option linter.unusedVariables false
set_option linter.unusedSimpArgs false
set_option maxHeartbeats 2000000 in
set_option maxRecDepth 20000 in
theorem needed_any (ts : List Me) (seq next id : Int) (va : Option Addr) (vn vc : Nat) (w : World) (hv : MetsR w (.slice va vn vc) ts) (hl : ts.length ≤ 4000000000000) (ht : Tab w) :
    Calls Tryz.prog 58 #[.agg #[.slice va vn vc, .int .i64 seq, .int .i64 next], .int .i64 id] w fun e w' => ∃ b, e = .returned (.map (some b)) ∧ Hid (SetN w' b (needL (ts.map (·.id)) id)) ∧ Hid (Below w.heap.size w w') := by
  have HV : Hid (MetsR w (.slice va vn vc) ts) := hv
  have HT : Hid (Tab w) := ht
  obtain ⟨a0, cap, ev, hcap, hmax⟩ := hv.len
  injection ev with e1 e2 e3
  subst e2
  unfold maxLen at hmax
  clear hv ht e1 e3
  have hmm := @run_makeMap Tryz.prog
  have hcur : ({ data := #[67, 85, 82, 82, 69, 78, 84] } : ByteArray) = strOfNums curN := rfl
  have HCO : Hid ((∀ y ∈ curN, 0 ≤ y ∧ y ≤ 255) ∧ curN.length ≤ maxLen) := by
    refine ⟨?_, by unfold maxLen; decide⟩
    intro y hy
    unfold curN at hy
    simp at hy
    omega
  go_enter Tryz.func58, Tryz.ntmps58
  rw [hcur]
  clear hcur
  have HC0 : Hid (addN [] curN = [curN]) := rfl
  have HP0 : Hid (needL ((ts.map (·.id)).take 0) id = putN [curN] 109 id) := rfl
  generalize curN = cu at *
  obtain ⟨wb, hwb⟩ : ∃ wb, wb = w.alloc (.cells #[.slice va ts.length vc, .int .i64 seq, .int .i64 next] 39) := ⟨_, rfl⟩
  have UB : Hid (Below w.heap.size w wb) := by rw [hwb]; exact up_al (Below.refl _ _) _
  have BX : Hid (wb.heap[w.heap.size]? = some (.cells #[.slice va ts.length vc, .int .i64 seq, .int .i64 next] 39)) := by rw [hwb]; exact blk_new _ _
  have HW : Hid (w.alloc (.cells #[.slice va ts.length vc, .int .i64 seq, .int .i64 next] 39) = wb) := hwb.symm
  clear hwb
  go_upto_region 1 with fail
  rw [HW.out]
  have HM0 : Hid (SetN (wb.alloc (.map #[] 0)) wb.heap.size []) := ⟨(by intro x hx; cases hx), SetS.made _ _ _⟩
  have HCO1 := HCO.out.1
  go_wp2_with (first | (refine wpList_setN_ins _ rfl _ _ _ rfl wb.heap.size [] rfl HM0.out (by unfold maxLen; decide) cu HCO.out.1 HCO.out.2 rfl rfl ?_; intro w2 hset2 hgrow2) | fail)
  have HC1 : Hid (addN [] cu = [cu]) := HC0.out
  obtain ⟨w3, hw3⟩ : ∃ w3, w3 = w2.alloc (.cells #[.map (some wb.heap.size)] 128) := ⟨_, rfl⟩
  have HW3 : Hid (w2.alloc (.cells #[.map (some wb.heap.size)] 128) = w3) := hw3.symm
  have U2 : Hid (Below w.heap.size w w2) := (up_al UB.out _).grown hgrow2 (up_al UB.out _).size (fun k hk => by injection hk with hk; have := UB.out.size; omega)
  have U3 : Hid (Below w.heap.size w w3) := by rw [hw3]; exact up_al U2.out _
  have S3 : Hid (SetN w3 wb.heap.size [cu]) := by rw [hw3, ← HC1.out]; exact hset2.up (up_al (Below.refl _ _) _)
  have C3 : Hid (w3.cell? ⟨w2.heap.size, 0, none⟩ = some (.map (some wb.heap.size))) := by rw [hw3]; exact blk_cell (blk_new _ _) 0 _ rfl
  have N1 := hid (need1_any 109 id (by omega) w2.heap.size wb.heap.size [cu] w3 C3.out S3.out (by simp) (HT.out.up U3.out))
  rw [HW3.out]
  have G2 : Hid (Below wb.heap.size wb w2) := (up_al (Below.refl _ _) _).grown hgrow2 (up_al (Below.refl _ _) _).size (fun k hk => by injection hk with hk; omega)
  have G3 : Hid (Below wb.heap.size wb w3) := by rw [hw3]; exact up_al G2.out _
  have HCne : Hid (w2.heap.size ≠ wb.heap.size) := S3.out.cell_ne C3.out
  clear hw3 hset2 hgrow2 HM0 HCO1 HC1 HC0 HCO hmm
  refine N1.out.mono ?_
  rintro e w4 ⟨rfl, HS4, HG4⟩
  clear N1
  have HL0 : Hid (needL (((ts.map (·.id)).take 0)) id = putN [cu] 109 id) := HP0.out
  have C4 : Hid (w4.cell? ⟨w2.heap.size, 0, none⟩ = some (.map (some wb.heap.size))) := HG4.out.cell C3.out (fun q => HCne.out (by simpa using q))
  have U4 : Hid (Below wb.heap.size wb w4) := G3.out.grown HG4.out G3.out.size (fun k hk => by injection hk with hk; omega)
  have BX4 : Hid (w4.heap[w.heap.size]? = some (.cells #[.slice va ts.length vc, .int .i64 seq, .int .i64 next] 39)) := blk_up BX.out U4.out
  have b0 := blk_cell BX4.out 0 _ rfl
  have HUw4 : Hid (Below w.heap.size w wb) := UB.out
  have S4 : Hid (SetN w4 wb.heap.size (needL (((ts.map (·.id)).take 0)) id)) := by rw [HL0.out]; exact HS4.out
  have HVW : Hid (∀ W, Below wb.heap.size wb W → MetsR W (.slice va ts.length vc) ts ∧ Tab W ∧ Below w.heap.size w W) := by
    intro W hW
    have hb : Below w.heap.size w W := UB.out.trans (hW.mono UB.out.size)
    exact ⟨HV.out.up hb, HT.out.up hb, hb⟩
  clear HS4 HG4 HL0 HP0 BX4 BX UB U2 U3 S3 C3 G2 G3 HV HT HUw4 HW HW3
  go_wp2_with fail
  go_loopw [19] (fun i wr => ∃ k : Nat, k ≤ ts.length ∧ i = .int .i64 k ∧ Hid (SetN wr wb.heap.size (needL ((ts.map (·.id)).take k) id)) ∧ Hid (Below wb.heap.size wb wr) ∧ Hid (wr.cell? ⟨w2.heap.size, 0, none⟩ = some (.map (some wb.heap.size)))) (fun i _ => ts.length - (intOf i).toNat)
  case atStart => exact ⟨0, Nat.zero_le _, rfl, S4.out, U4.out, C4.out⟩
  case round =>
    clear S4 C4 U4 b0
    obtain ⟨k, hk, rfl, HS, up, HC⟩ := hrel
    by_cases hlt : k < ts.length
    · have hlt' : (k : Int) < (ts.length : Int) := by omega
      obtain ⟨b, off, cap', y, e, hy, c0, c1, c2, c3, c4⟩ := (HVW.out _ up.out).1.at k hlt
      simp at e
      obtain ⟨rfl, rfl⟩ := e
      have HL : Hid (needL ((ts.map (·.id)).take (k + 1)) id = putN (needL ((ts.map (·.id)).take k) id) 116 y.id) := by
        unfold Hid
        rw [← needL_snoc, List.take_add_one, List.getElem?_map, hy]
        rfl
      obtain ⟨wx, hwx⟩ : ∃ wx, wx = wr.alloc (.cells #[.int .i64 y.id, .int .i64 y.lvl, .int .i64 y.cnt, .string y.low, .string y.high] 148) := ⟨_, rfl⟩
      have HX : Hid (wr.alloc (.cells #[.int .i64 y.id, .int .i64 y.lvl, .int .i64 y.cnt, .string y.low, .string y.high] 148) = wx) := hwx.symm
      have upx : Hid (Below wr.heap.size wr wx) := by rw [hwx]; exact up_al (Below.refl _ _) _
      have bx : wx.heap[wr.heap.size]? = some (.cells #[.int .i64 y.id, .int .i64 y.lvl, .int .i64 y.cnt, .string y.low, .string y.high] 148) := by rw [hwx]; exact blk_new _ _
      have x0 := blk_cell bx 0 _ rfl
      have HCx : Hid (wx.cell? ⟨w2.heap.size, 0, none⟩ = some (.map (some wb.heap.size))) := (upx.out.cell (World.block_lt_of_cell? wr _ HC.out)).trans HC.out
      have HSx : Hid (SetN wx wb.heap.size (needL ((ts.map (·.id)).take k) id)) := HS.out.up upx.out
      have hUx : Below wb.heap.size wb wx := up.out.trans (upx.out.mono up.out.size)
      have HLN : Hid ((needL ((ts.map (·.id)).take k) id).length < 4611686018427387904) := by
        have := needL_len ((ts.map (·.id)).take k) id
        rw [List.length_take, List.length_map] at this
        unfold Hid
        omega
      have N1 := hid (need1_any 116 y.id (by omega) w2.heap.size wb.heap.size _ wx HCx.out HSx.out HLN.out (HVW.out _ hUx).2.1)
      rw [← HL.out] at N1
      have HUx : Hid (Below wb.heap.size wb wx) := hUx
      clear hwx hy HL HLN HS HSx hUx
      go_upto_region 7 with fail
      rw [HX.out]
      go_wp2_with fail
      refine N1.out.mono ?_
      rintro e w5 ⟨rfl, HS5, HG5⟩
      have C5 : Hid (w5.cell? ⟨w2.heap.size, 0, none⟩ = some (.map (some wb.heap.size))) := HG5.out.cell HCx.out (fun q => HCne.out (by simpa using q))
      have U5 : Hid (Below wb.heap.size wb w5) := HUx.out.grown HG5.out HUx.out.size (fun k hk => by injection hk with hk; omega)
      clear HG5 N1 HCx HUx upx HX bx x0 c0 c1 c2 c3 c4
      go_wp2_with fail
      exact ⟨⟨k + 1, by omega, by go_num, HS5, U5, C5⟩, by simp [intOf]; omega⟩
    · have hlt' : ¬ (k : Int) < (ts.length : Int) := by omega
      obtain rfl : k = ts.length := by omega
      have HS2 : Hid (SetN wr wb.heap.size (needL (ts.map (·.id)) id)) := by
        have := HS.out
        rw [List.take_of_length_le (by rw [List.length_map]; omega)] at this
        exact this
      have hc5 := HC.out
      clear HS HCne
      go_wp2_with fail
      go_ret
      exact ⟨_, rfl, HS2, (HVW.out _ up.out).2.2⟩
end Go.Proofs.YtnchjlimkgbfpaaGreatDoor

namespace Go.Proofs.YtnchjlimkgbfpaaGreatDoor
open Go.RowKit
set_option linter.unusedVariables false
set_option linter.unusedSimpArgs false
def nedB (needs : List (List Int)) (log : Int) (x : List Int) : Bool := decide (x ∈ needs) || logOf log x
theorem parR_log (log : Int) (x : List Int) : ∃ (k n : Int) (b : Bool), parR (parseN x) = .tuple #[.int .u8 k, .int .i64 n, .bool b] ∧ logOf log x = (b && (decide (k = 108) && decide (log ≤ n))) := by
  unfold logOf
  cases h : parseN x with
  | none => exact ⟨0, 0, false, rfl, by simp⟩
  | some q => exact ⟨q.1, q.2, true, rfl, by simp⟩
def EnvB (B : Nat) (w : World) : Prop := ∃ w0, EnvL w0 ∧ w0.heap.size ≤ B ∧ Below w0.heap.size w0 w
theorem EnvB.at {B : Nat} {w : World} (h : EnvB B w) : EnvL w := by
  obtain ⟨w0, h1, _, h2⟩ := h
  exact h1.up h2
theorem EnvB.of {w : World} (h : EnvL w) : EnvB w.heap.size w := ⟨w, h, Nat.le_refl _, Below.refl _ _⟩
theorem EnvB.up {B : Nat} {w w' : World} (h : EnvB B w) (hb : Below w.heap.size w w') : EnvB B w' := by
  obtain ⟨w0, h1, h2, h3⟩ := h
  exact ⟨w0, h1, h2, h3.trans (hb.mono h3.size)⟩
theorem EnvB.mono {B B' : Nat} {w : World} (h : EnvB B w) (hb : B ≤ B') : EnvB B' w := by
  obtain ⟨w0, h1, h2, h3⟩ := h
  exact ⟨w0, h1, Nat.le_trans h2 hb, h3⟩
theorem EnvB.grown {B g : Nat} {w w' : World} (h : EnvB B w) (hg : w.grownBy w' (some g)) (hB : B ≤ g) : EnvB B w' := by
  obtain ⟨w0, h1, h2, h3⟩ := h
  exact ⟨w0, h1, h2, h3.grown hg h3.size (fun k hk => by injection hk with hk; omega)⟩
def OrpW (B : Nat) (w : World) (NN NL b : Nat) (needs : List (List Int)) (log : Int) : Prop := w.cell? ⟨NN, 0, none⟩ = some (.map (some b)) ∧ w.cell? ⟨NL, 0, none⟩ = some (.int .i64 log) ∧ SetN w b needs ∧ EnvB B w
theorem OrpW.up {B : Nat} {w w' : World} {NN NL b : Nat} {needs : List (List Int)} {log : Int} (h : OrpW B w NN NL b needs log) (hb : Below w.heap.size w w') : OrpW B w' NN NL b needs log :=
  ⟨(hb.cell (p := ⟨NN, 0, none⟩) (World.block_lt_of_cell? w _ h.1)).trans h.1, (hb.cell (p := ⟨NL, 0, none⟩) (World.block_lt_of_cell? w _ h.2.1)).trans h.2.1, h.2.2.1.up hb, h.2.2.2.up hb⟩
set_option maxHeartbeats 2000000 in
set_option maxRecDepth 20000 in
theorem orp1_any (x : List Int) (hx : ∀ y ∈ x, 0 ≤ y ∧ y ≤ 255) (hm : x.length ≤ 140737488355328) (NN NL b : Nat) (needs : List (List Int)) (log : Int) (B : Nat) (w : World) (h : OrpW B w NN NL b needs log) :
    Calls Tryz.prog 60 #[.string (strOfNums x), .pointer (some ⟨NN, 0, none⟩), .pointer (some ⟨NL, 0, none⟩)] w fun e w' => e = .returned (.bool (nedB needs log x)) ∧ Hid (Below w.heap.size w w') := by
  obtain ⟨h1, h2, h3, h4⟩ := h
  have h4 := h4.at
  have HS : Hid (SetN w b needs) := h3
  have HX : Hid ((∀ y ∈ x, 0 ≤ y ∧ y ≤ 255) ∧ x.length ≤ maxLen) := ⟨hx, by unfold maxLen; omega⟩
  have HL : Hid (w.cell? ⟨NL, 0, none⟩ = some (.int .i64 log)) := h2
  have hnl := World.block_lt_of_cell? w _ h2
  obtain ⟨k, n, pb, hp, hlog⟩ := parR_log log x
  have HP : Hid (∀ w', Below w.heap.size w w' → Calls Tryz.prog 49 #[.string (strOfNums x)] w' fun e w'' => e = .returned (.tuple #[.int .u8 k, .int .i64 n, .bool pb]) ∧ Below w'.heap.size w' w'') := by
    intro w' hb
    have := parse_any x hx hm w' (h4.up hb)
    rw [hp] at this
    exact this
  clear h4 h3 hx hm hp
  have hz : (zeroValue 131).run Tryz.prog w = .ok (.agg #[]) w := zero131 w
  cases hd : decide (x ∈ needs) with
  | true =>
    have HR : Hid (nedB needs log x = true) := by unfold Hid nedB; rw [hd]; rfl
    generalize nedB needs log x = R at *
    clear hlog HP
    go_enter Tryz.func60, Tryz.ntmps60
    go_wp2_with (first | (at_lookup; refine wpList_setN_look _ rfl _ _ rfl b needs rfl HS.out x HX.out.1 HX.out.2 rfl ?_; rw [hd]) | fail)
    go_ret
    exact ⟨ret_bool HR.out.symm, up_alloc _ _⟩
  | false =>
    have HR : Hid (nedB needs log x = (pb && (decide (k = 108) && decide (log ≤ n)))) := by unfold Hid nedB; rw [hd, hlog]; rfl
    generalize nedB needs log x = R at *
    clear hlog
    cases pb
    · go_enter Tryz.func60, Tryz.ntmps60
      go_wp2_with (first | (at_lookup; refine wpList_setN_look _ rfl _ _ rfl b needs rfl HS.out x HX.out.1 HX.out.2 rfl ?_; rw [hd]) | fail)
      refine (HP.out _ (up_alloc _ _)).mono ?_
      rintro e w1 ⟨rfl, hb⟩
      have UB : Hid (Below w.heap.size w w1) := (up_alloc _ _).trans (hb.mono (up_alloc w _).size)
      clear hb
      go_wp2_with fail
      go_ret
      exact ⟨ret_bool HR.out.symm, UB.out⟩
    · by_cases ck : k = 108
      · subst ck
        go_enter Tryz.func60, Tryz.ntmps60
        go_wp2_with (first | (at_lookup; refine wpList_setN_look _ rfl _ _ rfl b needs rfl HS.out x HX.out.1 HX.out.2 rfl ?_; rw [hd]) | fail)
        refine (HP.out _ (up_alloc _ _)).mono ?_
        rintro e w1 ⟨rfl, hb⟩
        have UB : Hid (Below w.heap.size w w1) := (up_alloc _ _).trans (hb.mono (up_alloc w _).size)
        have hl1 : w1.cell? ⟨NL, 0, none⟩ = some (.int .i64 log) := (UB.out.cell (p := ⟨NL, 0, none⟩) hnl).trans HL.out
        clear hb
        go_wp2_with fail
        go_ret
        refine ⟨ret_bool ?_, UB.out⟩
        rw [HR.out]
        simp
      · have ckf : (k == 108) = false := by simpa using ck
        have HR2 : Hid (R = false) := by unfold Hid; rw [HR.out]; simp [ck]
        go_enter Tryz.func60, Tryz.ntmps60
        go_wp2_with (first | (at_lookup; refine wpList_setN_look _ rfl _ _ rfl b needs rfl HS.out x HX.out.1 HX.out.2 rfl ?_; rw [hd]) | fail)
        refine (HP.out _ (up_alloc _ _)).mono ?_
        rintro e w1 ⟨rfl, hb⟩
        have UB : Hid (Below w.heap.size w w1) := (up_alloc _ _).trans (hb.mono (up_alloc w _).size)
        clear hb HR
        go_wp2_with fail
        go_ret
        exact ⟨ret_bool HR2.out.symm, UB.out⟩
end Go.Proofs.YtnchjlimkgbfpaaGreatDoor
