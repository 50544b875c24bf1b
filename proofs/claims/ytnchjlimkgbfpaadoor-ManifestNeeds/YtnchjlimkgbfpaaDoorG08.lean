/- The texts P9, Q1, Q2, Q3, Q4, Q5, in this order. -/
import Derived.Test.YtnchjlimkgbfpaaDoorG07
import Derived.Deep.RegionLaw
import Derived.Laws.CopyRow
import Derived.Laws.IdiomCopy
import Derived.Lib.AppendZerosOnto
import Derived.Lib.Overlaps
import Derived.Laws.Externs

/- The program's copy of a state: in memory of its own. -/
namespace Go.Proofs.YtnchjlimkgbfpaaDoor
open Go.RowKit
set_option linter.unusedVariables false

theorem blk_other {w : World} {B : Nat} {o : Obj} (h : w.heap[B]? = some o) {a : Addr} (hne : B ≠ a.block) (u : Value) : (w.setCell a u).heap[B]? = some o := (Below.heap_setCell w a u B hne).trans h

/-- What comes back through a state's own block. -/
theorem results_state {fn : Func} (h : fn.results = #[.cell 2 42]) (tmps : Array Value) (w : World) {N : Nat} {a b c d e : Value} (ht : tmps.getD 2 undef = .pointer (some ⟨N, 0, none⟩))
    (hc : w.heap[N]? = some (.cells #[a, b, c, d, e] 42)) : (results fn tmps).run Tryd.prog w = .ok (.agg #[a, b, c, d, e]) w := by
  have c0 := blk_cell hc 0 a rfl
  have c1 := blk_cell hc 1 b rfl
  have c2 := blk_cell hc 2 c rfl
  have c3 := blk_cell hc 3 d rfl
  have c4 := blk_cell hc 4 e rfl
  have ht' : tmps[2]?.getD undef = .pointer (some ⟨N, 0, none⟩) := by simpa using ht
  simp only [results, h]
  simp [ht', go_sem, c0, c1, c2, c3, c4]

/-- A whole state is stored into a block. -/
def set5 (w : World) (N : Nat) (a b c d e : Value) : World := ((((w.setCell ⟨N, 0, none⟩ a).setCell ⟨N, 1, none⟩ b).setCell ⟨N, 2, none⟩ c).setCell ⟨N, 3, none⟩ d).setCell ⟨N, 4, none⟩ e
theorem set5_blk {w : World} {N : Nat} {t : TypeId} {x0 x1 x2 x3 x4 : Value} (h : w.heap[N]? = some (.cells #[x0, x1, x2, x3, x4] t)) (a b c d e : Value) : (set5 w N a b c d e).heap[N]? = some (.cells #[a, b, c, d, e] t) :=
  blk_set (blk_set (blk_set (blk_set (blk_set h 0 a) 1 b) 2 c) 3 d) 4 e
theorem set5_grown (w : World) (N : Nat) (a b c d e : Value) : w.grownBy (set5 w N a b c d e) (some N) :=
  grown_trans (grown_trans (grown_trans (grown_trans (grown_set w ⟨N, 0, none⟩ a) (grown_set _ ⟨N, 1, none⟩ b)) (grown_set _ ⟨N, 2, none⟩ c)) (grown_set _ ⟨N, 3, none⟩ d)) (grown_set _ ⟨N, 4, none⟩ e)

/-- The rows of files while their octets are being copied: k are. -/
def Half (w : World) (base : Nat) (v : Value) (m m' : List FRow) (k : Nat) : Prop :=
  m'.map (·.2) = m.map (·.2) ∧ (∀ j, k ≤ j → j < m.length → m'.getD j (undef, 0, [], 0) = m.getD j (undef, 0, [], 0)) ∧ OwnR w base 79 3 v (m'.map frow) ∧ (∀ j, j < k → j < m.length → OwnB w base (m'.getD j (undef, 0, [], 0)).1 (m'.getD j (undef, 0, [], 0)).2.2.1) ∧
    ∀ i j, i < j → j < k → j < m.length → Apart (m'.getD i (undef, 0, [], 0)).1 (m'.getD j (undef, 0, [], 0)).1

theorem half_len {w : World} {base : Nat} {v : Value} {m m' : List FRow} {k : Nat} (h : Half w base v m m' k) : m'.length = m.length := by
  have := congrArg List.length h.1
  simpa using this

theorem half_at {w : World} {base : Nat} {v : Value} {m m' : List FRow} {k : Nat} (h : Half w base v m m' k) (j : Nat) (hj : j < m.length) : (m'.getD j (undef, 0, [], 0)).2 = (m.getD j (undef, 0, [], 0)).2 := by
  have hl := half_len h
  have e : (m'.map (·.2))[j]? = (m.map (·.2))[j]? := by rw [h.1]
  rw [List.getElem?_map, List.getElem?_map, List.getElem?_eq_getElem (by omega), List.getElem?_eq_getElem hj] at e
  simp at e
  simpa [List.getD, hj, hl] using e

theorem half_done {w : World} {base : Nat} {v : Value} {m m' : List FRow} (h : Half w base v m m' m.length) (ho : ∀ y ∈ m, okRow y) : OwnF w base v m' ∧ m'.map (·.2) = m.map (·.2) := by
  have hl := half_len h
  refine ⟨⟨h.2.2.1, ?_, ?_⟩, h.1⟩
  · intro y hy
    obtain ⟨j, hj, rfl⟩ := List.getElem_of_mem hy
    have h1 := h.2.2.2.1 j (by omega) (by omega)
    have h2 := half_at h j (by omega)
    have e : m'.getD j (undef, 0, [], 0) = m'[j] := by simp [List.getD, hj]
    rw [e] at h1 h2
    refine ⟨h1, ?_⟩
    unfold okRow
    rw [h2]
    have e2 : m.getD j (undef, 0, [], 0) ∈ m := by
      have : j < m.length := by omega
      simp [List.getD, this]
    exact ho _ e2
  · rw [List.pairwise_iff_getElem]
    intro i j hi hj hij
    have := h.2.2.2.2 i j hij (by omega) (by omega)
    simpa [List.getD, hi, hj] using this

theorem Half.set {w w2 w' : World} {base : Nat} {v v' : Value} {m m' : List FRow} {k : Nat} (h : Half w base v m m' k) (hk : k < m.length) (hup : Below w.heap.size w w2) (hv : OwnB w2 w.heap.size v' (m'.getD k (undef, 0, [], 0)).2.2.1) (hbase : base ≤ w.heap.size)
    {g n cap : Nat} (hs : v = .slice (some ⟨g, 0, none⟩) n cap) (hw : w' = w2.setCell ⟨g, k * 3 + 1, none⟩ v') : Half w' base v m (m'.set k (v', (m'.getD k (undef, 0, [], 0)).2)) (k + 1) := by
  have hl := half_len h
  have hl2 : (m'.map frow).length = n := by
    have := (Rws.own h.2.2.1).len
    obtain ⟨a, c, e, _⟩ := this
    rw [hs] at e
    injection e with _ e2 _
    exact e2.symm
  have hn : n = m.length := by rw [← hl2, List.length_map, hl]
  have st := OwnR.set (hs ▸ (h.2.2.1.up hup)) hl2 k (by omega) 1 (by omega) v'
  have hfar := st.2.1
  have hown : OwnR w2 base 79 3 (.slice (some ⟨g, 0, none⟩) n cap) (m'.map frow) := hs ▸ (h.2.2.1.up hup)
  have hob : Value.ownBlock (.slice (some ⟨g, 0, none⟩) n cap) = some g := rfl
  refine ⟨?_, ?_, ?_, ?_, ?_⟩
  · rw [← h.1]
    apply List.ext_getElem (by simp)
    intro j h1 h2
    rw [List.getElem_map, List.getElem_map, List.getElem_set]
    split
    · rename_i e
      subst e
      have : k < m'.length := by omega
      simp [List.getD, this]
    · rfl
  · intro j hj hjm
    rw [← h.2.1 j (by omega) hjm]
    have : k ≠ j := by omega
    simp [List.getD, this]
  · rw [hw, hs]
    have e : (m'.set k (v', (m'.getD k (undef, 0, [], 0)).2)).map frow = (m'.map frow).set k (((m'.map frow).getD k []).set 1 v') := by
      rw [List.map_set]
      have hk' : k < m'.length := by omega
      congr 1
      simp [List.getD, hk', frow]
    rw [e]
    exact st.1
  · intro j hj hjm
    have hk' : k < m'.length := by omega
    rw [hw]
    by_cases e : j = k
    · subst e
      have e1 : (m'.set j (v', (m'.getD j (undef, 0, [], 0)).2)).getD j (undef, 0, [], 0) = (v', (m'.getD j (undef, 0, [], 0)).2) := by simp [List.getD, hk']
      rw [e1]
      have := hv.far hfar (hob ▸ own_own_ne hv hown.2 (by decide))
      exact OwnB.mono this hbase
    · have e1 : (m'.set k (v', (m'.getD k (undef, 0, [], 0)).2)).getD j (undef, 0, [], 0) = m'.getD j (undef, 0, [], 0) := by
        have : k ≠ j := fun q => e q.symm
        simp [List.getD, this]
      rw [e1]
      have h3 := (h.2.2.2.1 j (by omega) hjm).up hup
      exact h3.far hfar (hob ▸ own_own_ne h3 hown.2 (by decide))
  · intro i j hij hj hjm
    have hk' : k < m'.length := by omega
    have e1 : (m'.set k (v', (m'.getD k (undef, 0, [], 0)).2)).getD i (undef, 0, [], 0) = m'.getD i (undef, 0, [], 0) := by
      have : k ≠ i := by omega
      simp [List.getD, this]
    rw [e1]
    by_cases e : j = k
    · subst e
      have e2 : (m'.set j (v', (m'.getD j (undef, 0, [], 0)).2)).getD j (undef, 0, [], 0) = (v', (m'.getD j (undef, 0, [], 0)).2) := by simp [List.getD, hk']
      rw [e2]
      exact apart_new (h.2.2.2.1 i (by omega) (by omega)) hv
    · have e2 : (m'.set k (v', (m'.getD k (undef, 0, [], 0)).2)).getD j (undef, 0, [], 0) = m'.getD j (undef, 0, [], 0) := by
        have : k ≠ j := fun q => e q.symm
        simp [List.getD, this]
      rw [e2]
      exact h.2.2.2.2 i j hij (by omega) hjm

end Go.Proofs.YtnchjlimkgbfpaaDoor

/- Blocks of rows written over: copies, clears, rows set; what is owned then. No Go function is walked here. -/
namespace Go.Proofs.YtnchjlimkgbfpaaDoor
open Go.RowKit
set_option linter.unusedVariables false

/-- A list written over from place o on. -/
def over (l : List Value) (o : Nat) (vs : List Value) : List Value := l.take o ++ vs ++ l.drop (o + vs.length)

theorem over_len (l : List Value) (o : Nat) (vs : List Value) (h : o + vs.length ≤ l.length) : (over l o vs).length = l.length := by
  simp only [over, List.length_append, List.length_take, List.length_drop]
  omega

theorem over_nil (l : List Value) (o : Nat) : over l o [] = l := by simp [over]

theorem over_cons (l : List Value) (o : Nat) (v : Value) (vs : List Value) (h : o + (vs.length + 1) ≤ l.length) : over (l.set o v) (o + 1) vs = over l o (v :: vs) := by
  unfold over
  have := list_seg_step l o v vs h
  simpa [List.length_cons] using this

/-- Ahead of the place all is as it was. -/
theorem over_take (l : List Value) (o : Nat) (vs : List Value) (k : Nat) (hk : k ≤ o) (ho : o ≤ l.length) : (over l o vs).take k = l.take k := by
  unfold over
  rw [List.append_assoc, List.take_append_of_le_length (by rw [List.length_take]; omega), List.take_take]
  congr 1
  omega

theorem blk_setCells {g : Nat} {t : TypeId} {fr : Nat × Nat} : ∀ (vs : List Value) (o : Nat) (cur : Array Value) (w : World), w.heap[g]? = some (.cells cur t fr) → o + vs.length ≤ cur.size →
    (w.setCells g o vs).heap[g]? = some (.cells (over cur.toList o vs).toArray t fr) ∧ w.grownBy (w.setCells g o vs) (some g)
  | [], o, cur, w, h, _ => by
    rw [over_nil]
    exact ⟨by simpa [World.setCells] using h, grown_refl _ _⟩
  | v :: vs, o, cur, w, h, hl => by
    have hl' : o + 1 + vs.length ≤ (cur.setIfInBounds o v).size := by simp at hl ⊢; omega
    have ih := blk_setCells vs (o + 1) (cur.setIfInBounds o v) (w.setCell ⟨g, o, none⟩ v) (blk_set h o v) hl'
    rw [World.setCells]
    refine ⟨?_, grown_trans (grown_set w ⟨g, o, none⟩ v) ih.2⟩
    rw [ih.1, Array.toList_setIfInBounds, over_cons _ _ _ _ (by simp at hl ⊢; omega)]

theorem blk_setRow {w : World} {g : Nat} {cur : Array Value} {t : TypeId} {fr : Nat × Nat} (h : w.heap[g]? = some (.cells cur t fr)) (cs : Array Value) : (w.setRow g cs).heap[g]? = some (.cells cs t fr) ∧ w.grownBy (w.setRow g cs) (some g) := by
  refine ⟨?_, rfl, rfl, rfl, by simp [World.setRow], ?_⟩
  · simp only [World.setRow, Array.getElem?_modify, h]
    simp
  · intro k hk hne
    simp only [World.setRow, Array.getElem?_modify]
    rw [if_neg (by intro e; exact hne (by rw [e]))]

/-- 'copy(d, s)': elements of sz cells each. -/
theorem run_copy_rows (w : World) (dT sT ty elem : TypeId) (sz : Nat) (g o dLen dCap : Nat) (a : Addr) (sLen sCap : Nat) (cur : Array Value) (t : TypeId) (cs : List Value)
    (hu : Tryd.prog.underlying dT = some (.slice elem)) (hs : (Tryd.prog.info? elem).map (·.size) = some sz)
    (hg : w.heap[g]? = some (.cells cur t (0, 0))) (hn : cs.length = Nat.min sLen dLen * sz)
    (hsrc : ∀ j v, cs[j]? = some v → w.cell? (a.add j) = some v) (hfit : o + cs.length ≤ cur.size) (h1 : ∀ v ∈ cs, v.oneCell' = true) :
    (Builtin.copy_ #[dT, sT] ty #[.slice (some ⟨g, o, none⟩) dLen dCap, .slice (some a) sLen sCap]).run Tryd.prog w =
      .ok (goInt (Nat.min sLen dLen)) (w.setRow g (over cur.toList o cs).toArray) := by
  have hl := run_loadCells_list (P := Tryd.prog) w a cs hsrc
  have hst := run_storeCells_at Tryd.prog g o t cs 0 cur w hg (by simpa using hfit) h1
  simp only [Nat.add_zero] at hst
  cases hq : Tryd.prog.info? elem with
  | none => simp [hq] at hs
  | some i =>
    have hi : i.size = sz := by simpa [hq] using hs
    unfold over
    simp [Builtin.copy_, run_underlying hu, Builtin.lenOf, Builtin.firstCells, sizeOf, typeInfo, hq, hi, ← hn, hl, hst]

/-- 'clear(s)': elements of sz cells each. -/
theorem run_clear_rows (w : World) (t e ty : TypeId) (z : Value) (ht : Tryd.prog.underlying t = some (.slice e)) (hv : ∀ w, (zeroValue e).run Tryd.prog w = .ok z w) (h1 : ∀ v ∈ z.cells.toList, v.oneCell' = true) (g o n c : Nat) (hn : 0 < n)
    (cur : Array Value) (hg : w.heap[g]? = some (.cells cur e (0, 0))) (hfit : o + n * z.cells.size ≤ cur.size) :
    (Builtin.clear_ #[t] ty #[.slice (some ⟨g, o, none⟩) n c]).run Tryd.prog w = .ok (.tuple #[]) (w.setRow g (over cur.toList o (Builtin.zeroCells z.cells n).toList).toArray) := by
  have hsz : (Builtin.zeroCells z.cells n).toList.length = n * z.cells.size := by simp [Builtin.zeroCells]
  have hone : ∀ v ∈ (Builtin.zeroCells z.cells n).toList, v.oneCell' = true := by
    intro v hv'
    simp only [Builtin.zeroCells, Array.toList_map, List.mem_map] at hv'
    obtain ⟨i, hi, rfl⟩ := hv'
    have hi' : i < n * z.cells.size := by simpa using hi
    have hpos : 0 < z.cells.size := by
      rcases Nat.eq_zero_or_pos z.cells.size with q | q
      · rw [q] at hi'; simp at hi'
      · exact q
    have hm : i % z.cells.size < z.cells.size := Nat.mod_lt _ hpos
    rw [getElem!_pos z.cells _ hm]
    exact h1 _ (by simp)
  have hst := run_storeCells_at Tryd.prog g o e (Builtin.zeroCells z.cells n).toList 0 cur w hg (by rw [hsz]; simpa using hfit) hone
  simp only [Nat.add_zero] at hst
  obtain ⟨m, rfl⟩ : ∃ m, n = m + 1 := ⟨n - 1, by omega⟩
  unfold over
  simp only [Builtin.clear_]
  simp [run_underlying ht, hv, hst]

/-- What is owned, as the block has it. -/
theorem OwnR.blk {w : World} {base : Nat} {e : TypeId} {sz g n cap : Nat} {css : List (List Value)} (h : OwnR w base e sz (.slice (some ⟨g, 0, none⟩) n cap) css) :
    ∃ cur, w.heap[g]? = some (.cells cur e (0, 0)) ∧ base ≤ g ∧ n ≤ cap ∧ cap ≤ maxLen ∧ cur.size = cap * sz ∧ cur.toList.take (n * sz) = css.flatten ∧ css.length = n := by
  obtain ⟨hx, hl, h2⟩ := h
  rcases h2 with ⟨e1, _⟩ | ⟨g', cap', cur, e1, hb, hh, hn, hm, hs, ht⟩
  · simp at e1
  · simp at e1
    obtain ⟨rfl, rfl, rfl⟩ := e1
    exact ⟨cur, hh, hb, hn, hm, hs, ht, rfl⟩

theorem own_of_blk {w : World} {base : Nat} {e : TypeId} {sz g n cap : Nat} {css : List (List Value)} {cur : Array Value} (hx : ∀ cs ∈ css, cs.length = sz) (hh : w.heap[g]? = some (.cells cur e (0, 0))) (hb : base ≤ g) (hn : n ≤ cap) (hm : cap ≤ maxLen) (hs : cur.size = cap * sz)
    (ht : cur.toList.take (n * sz) = css.flatten) (hl : css.length = n) : OwnR w base e sz (.slice (some ⟨g, 0, none⟩) n cap) css := by
  subst hl
  refine ⟨hx, flat_rows css hx, .inr ⟨g, cap, cur, rfl, hb, hh, hn, hm, hs, ht⟩⟩

theorem flat_take {sz : Nat} : ∀ (css : List (List Value)) (_ : ∀ cs ∈ css, cs.length = sz) (k : Nat), css.flatten.take (k * sz) = (css.take k).flatten
  | [], _, k => by simp
  | c :: css, hx, 0 => by simp
  | c :: css, hx, k + 1 => by
    have hc := hx c (by simp)
    rw [List.flatten_cons, List.take_succ_cons, List.flatten_cons, ← flat_take css (fun d hd => hx d (by simp [hd])) k, List.take_append, hc, Nat.add_mul, Nat.one_mul, Nat.add_sub_cancel, List.take_of_length_le (by omega)]

theorem flat_drop {sz : Nat} (css : List (List Value)) (hx : ∀ cs ∈ css, cs.length = sz) (k : Nat) : css.flatten.drop (k * sz) = (css.drop k).flatten := by
  have h1 := flat_take css hx k
  have h2 : css.flatten = (css.take k).flatten ++ (css.drop k).flatten := by rw [← List.flatten_append, List.take_append_drop]
  rcases Nat.lt_or_ge k css.length with c | c
  · have h3 : (css.take k).flatten.length = k * sz := by
      rw [flat_rows _ (fun d hd => hx d (List.mem_of_mem_take hd)), List.length_take]
      congr 1
      omega
    rw [h2, List.drop_append_of_le_length (by omega), List.drop_of_length_le (by omega), List.nil_append]
  · rw [List.drop_of_length_le (by rw [flat_rows css hx]; exact Nat.mul_le_mul_right _ c), List.drop_of_length_le c]
    rfl

/-- The first k of what is owned, whatever was written behind them. -/
theorem OwnR.firstOver {w w' : World} {base : Nat} {e : TypeId} {sz g n cap : Nat} {css : List (List Value)} (h : OwnR w base e sz (.slice (some ⟨g, 0, none⟩) n cap) css) (k : Nat) (hk : k ≤ n) (cur : Array Value) (hc : w.heap[g]? = some (.cells cur e (0, 0))) (vs : List Value) (hfit : k * sz + vs.length ≤ cur.size)
    (hw : w'.heap[g]? = some (.cells (over cur.toList (k * sz) vs).toArray e (0, 0))) : OwnR w' base e sz (.slice (some ⟨g, 0, none⟩) k cap) (css.take k) := by
  obtain ⟨cur', hh, hb, hn, hm, hs, ht, hl⟩ := h.blk
  rw [hc] at hh
  simp at hh
  subst hh
  refine own_of_blk (fun cs hcs => h.1 cs (List.mem_of_mem_take hcs)) hw hb (by omega) hm ?_ ?_ (by rw [List.length_take]; omega)
  · have := over_len cur.toList (k * sz) vs (by simpa using hfit)
    simpa [hs] using this
  · have e1 : (over cur.toList (k * sz) vs).toArray.toList = over cur.toList (k * sz) vs := by simp
    rw [e1, over_take _ _ _ _ (Nat.le_refl _) (by simp; omega), ← flat_take css h.1 k, ← ht, List.take_take]
    congr 1
    have : k * sz ≤ n * sz := Nat.mul_le_mul_right _ hk
    omega
end Go.Proofs.YtnchjlimkgbfpaaDoor

/- Files that no name stands for are struck from the list. -/
namespace Go.Proofs.YtnchjlimkgbfpaaDoor
open Go.RowKit
set_option linter.unusedVariables false

theorem look_set {w : World} {b : Nat} {ids : List Int} (h : SetW w b ids) {x : Int} (hx : In64 x) : (Instr.lookup 97 (.map (some b)) (.int .i64 x) true).run Tryd.prog w = .ok (.tuple #[.agg #[], .bool (ids.contains x)]) w := by
  obtain ⟨D, h1, h2, h3, h4⟩ := h
  have hz : (zeroValue 68).run Tryd.prog w = .ok (.agg #[]) w := by
    have : ∀ w, (zeroValue 68).run Tryd.prog w = .ok (.agg #[]) w := Tryd.zeroValue68
    exact this w
  obtain ⟨v, ps, hrun, hv⟩ := h1.look_ok (Maps.int_keyed Tryd.underlying3) Tryd.underlying97 hz unitElem_mk (Maps.keyOf_int_mk Tryd.underlying3 (wf_i64_of hx))
  obtain ⟨rfl, _⟩ := unitElem_inv hv
  rw [h4 x] at hrun
  exact hrun

/-- Rows of files as they are read. -/
def RowsF (w : World) (v : Value) (m : List FRow) : Prop := Rws 3 w v (m.map frow) ∧ ∀ y ∈ m, (∃ a n c, y.1 = .slice a n c) ∧ In64 y.2.1

theorem RowsF.up {w w' : World} {v : Value} {m : List FRow} (h : RowsF w v m) (hb : Below w.heap.size w w') : RowsF w' v m := ⟨h.1.up hb, h.2⟩

theorem RowsF.at {w : World} {v : Value} {m : List FRow} (h : RowsF w v m) (k : Nat) (hk : k < m.length) :
    ∃ b off cap a n c, v = .slice (some ⟨b, off, none⟩) m.length cap ∧ m.length ≤ cap ∧ cap ≤ maxLen ∧ (m.getD k (undef, 0, [], 0)).1 = .slice a n c ∧ w.cell? ⟨b, off + k * 3, none⟩ = some (.int .i64 (m.getD k (undef, 0, [], 0)).2.1) ∧ w.cell? ⟨b, off + k * 3 + 1, none⟩ = some (.slice a n c) ∧
      w.cell? ⟨b, off + k * 3 + 2, none⟩ = some (.int .i64 (m.getD k (undef, 0, [], 0)).2.2.2) ∧ In64 (m.getD k (undef, 0, [], 0)).2.1 := by
  obtain ⟨b, off, cap, e, h1, h2, hc⟩ := h.1.at k (by rw [List.length_map]; exact hk)
  rw [List.length_map] at e h1
  have hr : (m.map frow).getD k [] = frow (m.getD k (undef, 0, [], 0)) := by simp [List.getD, hk]
  rw [hr] at hc
  have hm : m.getD k (undef, 0, [], 0) ∈ m := by simp [List.getD, hk]
  obtain ⟨⟨a, n, c, e1⟩, hi⟩ := h.2 _ hm
  have c1 := hc 1 _ rfl
  rw [e1] at c1
  exact ⟨b, off, cap, a, n, c, e, h1, h2, e1, hc 0 _ rfl, c1, hc 2 _ rfl, hi⟩

theorem RowsF.len {w : World} {v : Value} {m : List FRow} (h : RowsF w v m) : ∃ a cap, v = .slice a m.length cap ∧ m.length ≤ cap ∧ cap ≤ maxLen := by
  obtain ⟨a, cap, e, h1, h2⟩ := h.1.len
  rw [List.length_map] at e h1
  exact ⟨a, cap, e, h1, h2⟩

def goneP (ids : List Int) (y : FRow) : Bool := !ids.contains y.2.1

end Go.Proofs.YtnchjlimkgbfpaaDoor

/- slices.DeleteFunc over files: those that stay, in their order. -/
namespace Go.Proofs.YtnchjlimkgbfpaaDoor
open Go.RowKit
set_option linter.unusedVariables false

theorem OwnR.row3 {w : World} {base : Nat} {e : TypeId} {g n cap : Nat} {css : List (List Value)} (h : OwnR w base e 3 (.slice (some ⟨g, 0, none⟩) n cap) css) (hn : css.length = n) (j : Nat) (hj : j < n) (a b c : Value) :
    OwnR (((w.setCell ⟨g, j * 3, none⟩ a).setCell ⟨g, j * 3 + 1, none⟩ b).setCell ⟨g, j * 3 + 2, none⟩ c) base e 3 (.slice (some ⟨g, 0, none⟩) n cap) (css.set j [a, b, c]) ∧ w.grownBy (((w.setCell ⟨g, j * 3, none⟩ a).setCell ⟨g, j * 3 + 1, none⟩ b).setCell ⟨g, j * 3 + 2, none⟩ c) (some g) := by
  have h1 := h.set hn j hj 0 (by decide) a
  have h2 := h1.1.set (by simp [hn]) j hj 1 (by decide) b
  have h3 := h2.1.set (by simp [hn]) j hj 2 (by decide) c
  refine ⟨?_, grown_trans (grown_trans h1.2.1 h2.2.1) h3.2.1⟩
  have e3 : ∀ r : List Value, r.length = 3 → ((r.set 0 a).set 1 b).set 2 c = [a, b, c] := by
    intro r hr
    match r, hr with
    | [x, y, z], _ => rfl
  have hjl : j < css.length := by omega
  have e4 := e3 css[j] (h.1 _ (List.getElem_mem hjl))
  have h4 := h3.1
  simp only [List.getD_eq_getElem?_getD, List.set_set, List.getElem?_set, hjl] at h4
  simpa [hjl, e4] using h4

def stayP (ids : List Int) (y : FRow) : Bool := ids.contains y.2.1

theorem filter_take_snoc {A : Type} (p : A → Bool) (l : List A) (k : Nat) (d : A) (h : k < l.length) : (l.take (k + 1)).filter p = (l.take k).filter p ++ (if p (l.getD k d) then [l.getD k d] else []) := by
  rw [take_snoc l k d h, List.filter_append]
  congr 1
  by_cases q : p (l.getD k d) = true
  · rw [if_pos q, List.filter_cons_of_pos q]; rfl
  · rw [if_neg q, List.filter_cons_of_neg q]; rfl

theorem filter_len_take {A : Type} (p : A → Bool) (l : List A) (k : Nat) (hk : k ≤ l.length) : ((l.take k).filter p).length ≤ k := by
  have := List.length_filter_le p (l.take k)
  rw [List.length_take] at this
  omega

theorem placeOf_cases {A : Type} (p : A → Bool) : ∀ (l : List A), (placeOf p l = -1 ∧ ∀ y ∈ l, p y = false) ∨ ∃ k : Nat, k < l.length ∧ placeOf p l = (k : Int) ∧ (∀ y ∈ l.take k, p y = false) ∧ ∀ d, p (l.getD k d) = true
  | [] => .inl ⟨rfl, fun y hy => by cases hy⟩
  | x :: l => by
    cases h : p x with
    | true => exact .inr ⟨0, by simp, by simp [placeOf, h], fun y hy => by simp at hy, fun d => by simpa using h⟩
    | false =>
      rcases placeOf_cases p l with ⟨e, ha⟩ | ⟨k, hk, e, ha, ht⟩
      · refine .inl ⟨by simp [placeOf, h, e], fun y hy => ?_⟩
        rcases List.mem_cons.1 hy with q | q
        · rw [q]; exact h
        · exact ha y q
      · refine .inr ⟨k + 1, by simpa using hk, ?_, fun y hy => ?_, fun d => by simpa using ht d⟩
        · simp only [placeOf, h, e, Bool.false_eq_true, if_false]
          rw [if_neg (by omega)]
          omega
        · rw [List.take_succ_cons] at hy
          rcases List.mem_cons.1 hy with q | q
          · rw [q]; exact h
          · exact ha y q

/-- The rows while some are being struck: i stay of the first j. -/
def Struck (w : World) (base : Nat) (v : Value) (ids : List Int) (m cur : List FRow) (i j : Nat) : Prop :=
  cur.length = m.length ∧ i = ((m.take j).filter (stayP ids)).length ∧ cur.take i = (m.take j).filter (stayP ids) ∧ cur.drop j = m.drop j ∧ OwnR w base 79 3 v (cur.map frow)

theorem struck_at {w : World} {base : Nat} {v : Value} {ids : List Int} {m cur : List FRow} {i j : Nat} (h : Struck w base v ids m cur i j) (hj : j < m.length) : cur.getD j (undef, 0, [], 0) = m.getD j (undef, 0, [], 0) := by
  have h1 := h.2.2.2.1
  have e := congrArg (fun l => l[0]?) h1
  simp only [List.getElem?_drop, Nat.add_zero] at e
  simp only [List.getD, e]

theorem struck_skip {w : World} {base : Nat} {v : Value} {ids : List Int} {m cur : List FRow} {i j : Nat} (h : Struck w base v ids m cur i j) (hj : j < m.length) (hp : stayP ids (m.getD j (undef, 0, [], 0)) = false) : Struck w base v ids m cur i (j + 1) := by
  obtain ⟨h1, h2, h3, h4, h5⟩ := h
  have e := filter_take_snoc (stayP ids) m j (undef, 0, [], 0) hj
  rw [hp] at e
  simp only [Bool.false_eq_true, if_false, List.append_nil] at e
  refine ⟨h1, by rw [e]; exact h2, by rw [e]; exact h3, ?_, h5⟩
  have := congrArg (List.drop 1) h4
  simpa [List.drop_drop] using this

theorem struck_keep {w w' : World} {base : Nat} {v : Value} {ids : List Int} {m cur : List FRow} {i j : Nat} (h : Struck w base v ids m cur i j) (hj : j < m.length) (hij : i < j) (hp : stayP ids (m.getD j (undef, 0, [], 0)) = true)
    (hw : OwnR w' base 79 3 v ((cur.map frow).set i (frow (m.getD j (undef, 0, [], 0))))) : Struck w' base v ids m (cur.set i (m.getD j (undef, 0, [], 0))) (i + 1) (j + 1) := by
  obtain ⟨h1, h2, h3, h4, h5⟩ := h
  have e := filter_take_snoc (stayP ids) m j (undef, 0, [], 0) hj
  rw [hp] at e
  simp only [if_true] at e
  refine ⟨by simpa using h1, by rw [e, List.length_append, ← h2]; rfl, ?_, ?_, ?_⟩
  · rw [e, ← h3]
    have hi : i < cur.length := by omega
    rw [take_snoc _ i (undef, 0, [], 0) (by simpa using hi), List.take_set_of_le (Nat.le_refl _)]
    congr 1
    simp [List.getD, hi]
  · rw [List.drop_set_of_lt (by omega)]
    have := congrArg (List.drop 1) h4
    simpa [List.drop_drop] using this
  · rw [List.map_set]
    exact hw

theorem blk_set_ne {w : World} {base : Nat} {e : TypeId} {sz : Nat} {v : Value} {css : List (List Value)} {b : Nat} {ids : List Int} (h : OwnR w base e sz v css) (hs : SetW w b ids) : v.ownBlock = none ∨ v.ownBlock ≠ some b := by
  obtain ⟨D, ⟨es, clock, hh, _⟩, _⟩ := hs
  rcases h.2.2 with ⟨rfl, _⟩ | ⟨g, cap, cur, rfl, _, hg, _⟩
  · exact .inl rfl
  · refine .inr ?_
    simp only [Value.ownBlock]
    intro q
    injection q with q
    subst q
    rw [hg] at hh
    simp at hh

end Go.Proofs.YtnchjlimkgbfpaaDoor

/- sweep: the files that nobody names are gone. -/
namespace Go.Proofs.YtnchjlimkgbfpaaDoor
open Go.RowKit
set_option linter.unusedVariables false
set_option linter.unusedSimpArgs false

theorem addId_mem (ids : List Int) (x y : Int) : (addId ids x).contains y = (ids.contains y || (y == x)) := by
  unfold addId
  by_cases e : y = x
  · subst e
    split <;> simp_all
  · split
    · simp [e]
    · simp [e]

theorem idsOf_mem (l : List (List Int × Int)) (x : Int) : (idsOf l).contains x = standsOf l x := by
  have h : ∀ (k : List (List Int × Int)) (acc : List Int), ((k.map (·.2)).foldl addId acc).contains x = (acc.contains x || standsOf k x) := by
    intro k
    induction k with
    | nil => intro acc; simp [standsOf]
    | cons p k ih =>
      intro acc
      rw [List.map_cons, List.foldl_cons, ih, addId_mem]
      simp only [standsOf, List.any_cons]
      rw [Bool.or_assoc]
      congr 2
      rw [Bool.eq_iff_iff]
      simp only [beq_iff_eq]
      exact eq_comm
  have := h l []
  simpa [idsOf] using this

def sweptOf (s : St) : St := { s with files := s.files.filter fun f => standsOf s.names f.1 || standsOf s.safe f.1 }

theorem stands_append (a b : List (List Int × Int)) (x : Int) : standsOf (a ++ b) x = (standsOf a x || standsOf b x) := by simp [standsOf]

theorem swept_rows (m : List FRow) (s : St) (h : m.map (·.2) = s.files) : (m.filter (stayP (idsOf (s.names ++ s.safe)))).map (·.2) = (sweptOf s).files := by
  unfold sweptOf
  simp only
  rw [← h, List.filter_map]
  congr 1
  apply List.filter_congr
  intro y _
  simp only [stayP, Function.comp]
  rw [idsOf_mem, stands_append]

/-- Below block number base the world is as it was, but for block B. -/
structure Beside (base B : Nat) (w w' : World) : Prop where
  os : w'.os = w.os
  tape : w'.tape = w.tape
  output : w'.output = w.output
  size : w.heap.size ≤ w'.heap.size
  block : ∀ k, k < base → k ≠ B → w'.heap[k]? = w.heap[k]?

theorem Beside.refl (base B : Nat) (w : World) : Beside base B w w := ⟨rfl, rfl, rfl, Nat.le_refl _, fun _ _ _ => rfl⟩
theorem Beside.trans {base B : Nat} {a b c : World} (h : Beside base B a b) (k : Beside base B b c) : Beside base B a c :=
  ⟨k.os.trans h.os, k.tape.trans h.tape, k.output.trans h.output, Nat.le_trans h.size k.size, fun i hi hn => (k.block i hi hn).trans (h.block i hi hn)⟩
theorem Below_beside {base B : Nat} {w w' : World} (h : Below w.heap.size w w') (hb : base ≤ w.heap.size) : Beside base B w w' := ⟨h.os, h.tape, h.output, h.size, fun k hk _ => h.block k (by omega)⟩
theorem Beside.grown {base B : Nat} {a w w' : World} {r : Option Nat} (h : Beside base B a w) (hg : w.grownBy w' r) (hB : base ≤ w.heap.size) (hr : ∀ k, r = some k → base ≤ k ∨ k = B) : Beside base B a w' :=
  h.trans ⟨hg.os, hg.tape, hg.output, hg.size, fun k hk hn => hg.block k (by omega) (fun e => by have := hr k e.symm; omega)⟩
theorem Beside.drew {base B : Nat} {a w : World} (h : Beside base B a w) : Beside base B a w.drew := ⟨h.os, h.tape, h.output, h.size, h.block⟩
/-- Where the block itself is not below base. -/
theorem Beside.below {base B : Nat} {w w' : World} (h : Beside base B w w') (hB : base ≤ B) : Below base w w' := ⟨h.os, h.tape, h.output, h.size, fun k hk => h.block k hk (by omega)⟩

/-- A state in a block of its own. -/
def OwnS (w : World) (base B : Nat) (s : St) : Prop := True ∧ ∃ vf vn vs m, w.heap[B]? = some (.cells #[.int .i64 s.cap, vf, vn, vs, .int .i64 s.next] 42) ∧ m.map (·.2) = s.files ∧ OwnF w base vf m ∧ OwnN w base 74 vn s.names ∧ OwnN w base 74 vs s.safe ∧ Apart vn vs ∧ In64 s.cap ∧ In64 s.next

theorem OwnS.up {w w' : World} {base B : Nat} {s : St} (h : OwnS w base B s) (hb : Below w.heap.size w w') : OwnS w' base B s := by
  obtain ⟨h0, vf, vn, vs, m, hb1, hm, h1, h2, h3, h4⟩ := h
  exact ⟨h0, vf, vn, vs, m, blk_up hb1 hb, hm, h1.up hb, h2.up hb, h3.up hb, h4⟩

theorem OwnF.shapes {w : World} {base : Nat} {v : Value} {m : List FRow} (h : OwnF w base v m) : ∀ y ∈ m, (∃ a n c, y.1 = .slice a n c) ∧ In64 y.2.1 := by
  intro y hy
  have h1 := h.2.1 y hy
  obtain ⟨a, c, e, _⟩ := (Octs.own h1.1 h1.2.1).slice
  exact ⟨⟨a, _, c, e⟩, h1.2.2.2.1⟩

theorem OwnF.filter {w w' : World} {base : Nat} {v v' : Value} {m : List FRow} (p : FRow → Bool) {r : Option Nat} (h : OwnF w base v m) (hv : OwnR w' base 79 3 v' ((m.filter p).map frow)) (hg : w.grownBy w' v.ownBlock) : OwnF w' base v' (m.filter p) := by
  refine ⟨hv, fun y hy => ?_, h.2.2.filter p⟩
  have h1 := h.2.1 y (List.mem_filter.1 hy).1
  exact ⟨h1.1.far hg (own_own_ne h1.1 h.1.2 (by decide)), h1.2⟩

theorem blk_two0 (w : World) (o1 o2 : Obj) : ((w.alloc o1).alloc o2).heap[w.heap.size]? = some o1 := blk_up (blk_new w o1) (up_al (Below.refl _ _) _)
theorem blk_two1 (w : World) (o1 o2 : Obj) : ((w.alloc o1).alloc o2).heap[w.heap.size + 1]? = some o2 := by
  have := blk_new (w.alloc o1) o2
  simpa using this

end Go.Proofs.YtnchjlimkgbfpaaDoor

/- slices.Delete of one name. -/
namespace Go.Proofs.YtnchjlimkgbfpaaDoor
open Go.RowKit
set_option linter.unusedVariables false

theorem flat_erase {sz : Nat} (css : List (List Value)) (i : Nat) (hi : i < css.length) : (css.eraseIdx i).flatten = (css.take i).flatten ++ (css.drop (i + 1)).flatten := by
  rw [List.eraseIdx_eq_take_drop_succ, List.flatten_append]

end Go.Proofs.YtnchjlimkgbfpaaDoor
