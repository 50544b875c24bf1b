/- The texts P9, Q1, Q2, Q3, Q4, Q5, Q6, Q7, Q8, Q9, QA, QB, QC, QD, M1, in this order. -/
import Derived.Test.YtnchjlimkgbfpaaGreatDoorE20
import Derived.Deep.RegionLaw
import Derived.Laws.CopyRow
import Derived.Laws.IdiomCopy
import Derived.Lib.AppendZerosOnto
import Derived.Lib.Overlaps
import Derived.Laws.Externs

namespace Go.Proofs.YtnchjlimkgbfpaaGreatDoor
open Go.RowKit
set_option linter.unusedVariables false
set_option maxRecDepth 20000
theorem results_state {fn : Func} (h : fn.results = #[.cell 2 35]) (tmps : Array Value) (w : World) {N : Nat} {a b c d e : Value} (ht : tmps.getD 2 undef = .pointer (some ⟨N, 0, none⟩))
    (hc : w.heap[N]? = some (.cells #[a, b, c, d, e] 35)) : (results fn tmps).run Tryz.prog w = .ok (.agg #[a, b, c, d, e]) w := by
  have c0 := blk_cell hc 0 a rfl
  have c1 := blk_cell hc 1 b rfl
  have c2 := blk_cell hc 2 c rfl
  have c3 := blk_cell hc 3 d rfl
  have c4 := blk_cell hc 4 e rfl
  have ht' : tmps[2]?.getD undef = .pointer (some ⟨N, 0, none⟩) := by simpa using ht
  simp only [results, h]
  simp [ht', go_sem, c0, c1, c2, c3, c4]
def set5 (w : World) (N : Nat) (a b c d e : Value) : World := ((((w.setCell ⟨N, 0, none⟩ a).setCell ⟨N, 1, none⟩ b).setCell ⟨N, 2, none⟩ c).setCell ⟨N, 3, none⟩ d).setCell ⟨N, 4, none⟩ e
theorem set5_blk {w : World} {N : Nat} {t : TypeId} {x0 x1 x2 x3 x4 : Value} (h : w.heap[N]? = some (.cells #[x0, x1, x2, x3, x4] t)) (a b c d e : Value) : (set5 w N a b c d e).heap[N]? = some (.cells #[a, b, c, d, e] t) :=
  blk_set (blk_set (blk_set (blk_set (blk_set h 0 a) 1 b) 2 c) 3 d) 4 e
theorem set5_grown (w : World) (N : Nat) (a b c d e : Value) : w.grownBy (set5 w N a b c d e) (some N) :=
  grown_trans (grown_trans (grown_trans (grown_trans (grown_set w ⟨N, 0, none⟩ a) (grown_set _ ⟨N, 1, none⟩ b)) (grown_set _ ⟨N, 2, none⟩ c)) (grown_set _ ⟨N, 3, none⟩ d)) (grown_set _ ⟨N, 4, none⟩ e)
def Half (w : World) (base : Nat) (v : Value) (m m' : List FRow) (k : Nat) : Prop :=
  m'.map (·.2) = m.map (·.2) ∧ (∀ j, k ≤ j → j < m.length → m'.getD j (undef, 0, [], 0) = m.getD j (undef, 0, [], 0)) ∧ OwnR w base 110 3 v (m'.map frow) ∧ (∀ j, j < k → j < m.length → OwnB w base (m'.getD j (undef, 0, [], 0)).1 (m'.getD j (undef, 0, [], 0)).2.2.1) ∧
    ∀ i j, i < j → j < k → j < m.length → Apart (m'.getD i (undef, 0, [], 0)).1 (m'.getD j (undef, 0, [], 0)).1
theorem half_len {w : World} {base : Nat} {v : Value} {m m' : List FRow} {k : Nat} (h : Half w base v m m' k) : m'.length = m.length := by
  have := congrArg List.length h.1
  simpa using this
theorem Half.set {w w2 w' : World} {base : Nat} {v v' : Value} {m m' : List FRow} {k : Nat} (h : Half w base v m m' k) (hk : k < m.length) (hup : Below w.heap.size w w2) (hv : OwnB w2 w.heap.size v' (m'.getD k (undef, 0, [], 0)).2.2.1) (hbase : base ≤ w.heap.size)
    {g n cap : Nat} (hs : v = .slice (some ⟨g, 0, none⟩) n cap) (hw : w' = w2.setCell ⟨g, k * 3 + 1, none⟩ v') : Half w' base v m (m'.set k (v', (m'.getD k (undef, 0, [], 0)).2)) (k + 1) := by
  have hl := half_len h
  have hl2 : (m'.map frow).length = n := by
    have := (Rws.own h.2.2.1).len
    obtain ⟨a, c, e, _⟩ := this
    rw [hs] at e
    injection e with _ e2 _
    exact e2.symm
  have hn : n = m.length := by rw [← hl2, List.length_map, hl]
  have st := OwnR.set (hs ▸ (h.2.2.1.up hup)) hl2 k (by omega) 1 (by omega) v'
  have hfar := st.2.1
  have hown : OwnR w2 base 110 3 (.slice (some ⟨g, 0, none⟩) n cap) (m'.map frow) := hs ▸ (h.2.2.1.up hup)
  have hob : Value.ownBlock (.slice (some ⟨g, 0, none⟩) n cap) = some g := rfl
  refine ⟨?_, ?_, ?_, ?_, ?_⟩
  · rw [← h.1]
    apply List.ext_getElem (by simp)
    intro j h1 h2
    rw [List.getElem_map, List.getElem_map, List.getElem_set]
    split
    · rename_i e
      subst e
      have : k < m'.length := by omega
      simp [List.getD, this]
    · rfl
  · intro j hj hjm
    rw [← h.2.1 j (by omega) hjm]
    have : k ≠ j := by omega
    simp [List.getD, this]
  · rw [hw, hs]
    have e : (m'.set k (v', (m'.getD k (undef, 0, [], 0)).2)).map frow = (m'.map frow).set k (((m'.map frow).getD k []).set 1 v') := by
      rw [List.map_set]
      have hk' : k < m'.length := by omega
      congr 1
      simp [List.getD, hk', frow]
    rw [e]
    exact st.1
  · intro j hj hjm
    have hk' : k < m'.length := by omega
    rw [hw]
    by_cases e : j = k
    · subst e
      have e1 : (m'.set j (v', (m'.getD j (undef, 0, [], 0)).2)).getD j (undef, 0, [], 0) = (v', (m'.getD j (undef, 0, [], 0)).2) := by simp [List.getD, hk']
      rw [e1]
      have := hv.far hfar (hob ▸ own_own_ne hv hown.2 (by decide))
      exact OwnB.mono this hbase
    · have e1 : (m'.set k (v', (m'.getD k (undef, 0, [], 0)).2)).getD j (undef, 0, [], 0) = m'.getD j (undef, 0, [], 0) := by
        have : k ≠ j := fun q => e q.symm
        simp [List.getD, this]
      rw [e1]
      have h3 := (h.2.2.2.1 j (by omega) hjm).up hup
      exact h3.far hfar (hob ▸ own_own_ne h3 hown.2 (by decide))
  · intro i j hij hj hjm
    have hk' : k < m'.length := by omega
    have e1 : (m'.set k (v', (m'.getD k (undef, 0, [], 0)).2)).getD i (undef, 0, [], 0) = m'.getD i (undef, 0, [], 0) := by
      have : k ≠ i := by omega
      simp [List.getD, this]
    rw [e1]
    by_cases e : j = k
    · subst e
      have e2 : (m'.set j (v', (m'.getD j (undef, 0, [], 0)).2)).getD j (undef, 0, [], 0) = (v', (m'.getD j (undef, 0, [], 0)).2) := by simp [List.getD, hk']
      rw [e2]
      exact apart_new (h.2.2.2.1 i (by omega) (by omega)) hv
    · have e2 : (m'.set k (v', (m'.getD k (undef, 0, [], 0)).2)).getD j (undef, 0, [], 0) = m'.getD j (undef, 0, [], 0) := by
        have : k ≠ j := fun q => e q.symm
        simp [List.getD, this]
      rw [e2]
      exact h.2.2.2.2 i j hij (by omega) hjm
end Go.Proofs.YtnchjlimkgbfpaaGreatDoor

namespace Go.Proofs.YtnchjlimkgbfpaaGreatDoor
open Go.RowKit
set_option linter.unusedVariables false
set_option maxRecDepth 20000
def over (l : List Value) (o : Nat) (vs : List Value) : List Value := l.take o ++ vs ++ l.drop (o + vs.length)
theorem over_len (l : List Value) (o : Nat) (vs : List Value) (h : o + vs.length ≤ l.length) : (over l o vs).length = l.length := by
  simp only [over, List.length_append, List.length_take, List.length_drop]
  omega
theorem over_nil (l : List Value) (o : Nat) : over l o [] = l := by simp [over]
theorem over_take (l : List Value) (o : Nat) (vs : List Value) (k : Nat) (hk : k ≤ o) (ho : o ≤ l.length) : (over l o vs).take k = l.take k := by
  unfold over
  rw [List.append_assoc, List.take_append_of_le_length (by rw [List.length_take]; omega), List.take_take]
  congr 1
  omega
theorem blk_setRow {w : World} {g : Nat} {cur : Array Value} {t : TypeId} {fr : Nat × Nat} (h : w.heap[g]? = some (.cells cur t fr)) (cs : Array Value) : (w.setRow g cs).heap[g]? = some (.cells cs t fr) ∧ w.grownBy (w.setRow g cs) (some g) := by
  refine ⟨?_, rfl, rfl, rfl, by simp [World.setRow], ?_⟩
  · simp only [World.setRow, Array.getElem?_modify, h]
    simp
  · intro k hk hne
    simp only [World.setRow, Array.getElem?_modify]
    rw [if_neg (by intro e; exact hne (by rw [e]))]
theorem run_clear_rows (w : World) (t e ty : TypeId) (z : Value) (ht : Tryz.prog.underlying t = some (.slice e)) (hv : ∀ w, (zeroValue e).run Tryz.prog w = .ok z w) (h1 : ∀ v ∈ z.cells.toList, v.oneCell' = true) (g o n c : Nat) (hn : 0 < n)
    (cur : Array Value) (hg : w.heap[g]? = some (.cells cur e (0, 0))) (hfit : o + n * z.cells.size ≤ cur.size) :
    (Builtin.clear_ #[t] ty #[.slice (some ⟨g, o, none⟩) n c]).run Tryz.prog w = .ok (.tuple #[]) (w.setRow g (over cur.toList o (Builtin.zeroCells z.cells n).toList).toArray) := by
  have hsz : (Builtin.zeroCells z.cells n).toList.length = n * z.cells.size := by simp [Builtin.zeroCells]
  have hone : ∀ v ∈ (Builtin.zeroCells z.cells n).toList, v.oneCell' = true := by
    intro v hv'
    simp only [Builtin.zeroCells, Array.toList_map, List.mem_map] at hv'
    obtain ⟨i, hi, rfl⟩ := hv'
    have hi' : i < n * z.cells.size := by simpa using hi
    have hpos : 0 < z.cells.size := by
      rcases Nat.eq_zero_or_pos z.cells.size with q | q
      · rw [q] at hi'; simp at hi'
      · exact q
    have hm : i % z.cells.size < z.cells.size := Nat.mod_lt _ hpos
    rw [getElem!_pos z.cells _ hm]
    exact h1 _ (by simp)
  have hst := run_storeCells_at Tryz.prog g o e (Builtin.zeroCells z.cells n).toList 0 cur w hg (by rw [hsz]; simpa using hfit) hone
  simp only [Nat.add_zero] at hst
  obtain ⟨m, rfl⟩ : ∃ m, n = m + 1 := ⟨n - 1, by omega⟩
  unfold over
  simp only [Builtin.clear_]
  simp [run_underlying ht, hv, hst]
theorem OwnR.blk {w : World} {base : Nat} {e : TypeId} {sz g n cap : Nat} {css : List (List Value)} (h : OwnR w base e sz (.slice (some ⟨g, 0, none⟩) n cap) css) :
    ∃ cur, w.heap[g]? = some (.cells cur e (0, 0)) ∧ base ≤ g ∧ n ≤ cap ∧ cap ≤ maxLen ∧ cur.size = cap * sz ∧ cur.toList.take (n * sz) = css.flatten ∧ css.length = n := by
  obtain ⟨hx, hl, h2⟩ := h
  rcases h2 with ⟨e1, _⟩ | ⟨g', cap', cur, e1, hb, hh, hn, hm, hs, ht⟩
  · simp at e1
  · simp at e1
    obtain ⟨rfl, rfl, rfl⟩ := e1
    exact ⟨cur, hh, hb, hn, hm, hs, ht, rfl⟩
theorem own_of_blk {w : World} {base : Nat} {e : TypeId} {sz g n cap : Nat} {css : List (List Value)} {cur : Array Value} (hx : ∀ cs ∈ css, cs.length = sz) (hh : w.heap[g]? = some (.cells cur e (0, 0))) (hb : base ≤ g) (hn : n ≤ cap) (hm : cap ≤ maxLen) (hs : cur.size = cap * sz)
    (ht : cur.toList.take (n * sz) = css.flatten) (hl : css.length = n) : OwnR w base e sz (.slice (some ⟨g, 0, none⟩) n cap) css := by
  subst hl
  refine ⟨hx, flat_rows css hx, .inr ⟨g, cap, cur, rfl, hb, hh, hn, hm, hs, ht⟩⟩
theorem flat_take {sz : Nat} : ∀ (css : List (List Value)) (_ : ∀ cs ∈ css, cs.length = sz) (k : Nat), css.flatten.take (k * sz) = (css.take k).flatten
  | [], _, k => by simp
  | c :: css, hx, 0 => by simp
  | c :: css, hx, k + 1 => by
    have hc := hx c (by simp)
    rw [List.flatten_cons, List.take_succ_cons, List.flatten_cons, ← flat_take css (fun d hd => hx d (by simp [hd])) k, List.take_append, hc, Nat.add_mul, Nat.one_mul, Nat.add_sub_cancel, List.take_of_length_le (by omega)]
theorem OwnR.firstOver {w w' : World} {base : Nat} {e : TypeId} {sz g n cap : Nat} {css : List (List Value)} (h : OwnR w base e sz (.slice (some ⟨g, 0, none⟩) n cap) css) (k : Nat) (hk : k ≤ n) (cur : Array Value) (hc : w.heap[g]? = some (.cells cur e (0, 0))) (vs : List Value) (hfit : k * sz + vs.length ≤ cur.size)
    (hw : w'.heap[g]? = some (.cells (over cur.toList (k * sz) vs).toArray e (0, 0))) : OwnR w' base e sz (.slice (some ⟨g, 0, none⟩) k cap) (css.take k) := by
  obtain ⟨cur', hh, hb, hn, hm, hs, ht, hl⟩ := h.blk
  rw [hc] at hh
  simp at hh
  subst hh
  refine own_of_blk (fun cs hcs => h.1 cs (List.mem_of_mem_take hcs)) hw hb (by omega) hm ?_ ?_ (by rw [List.length_take]; omega)
  · have := over_len cur.toList (k * sz) vs (by simpa using hfit)
    simpa [hs] using this
  · have e1 : (over cur.toList (k * sz) vs).toArray.toList = over cur.toList (k * sz) vs := by simp
    rw [e1, over_take _ _ _ _ (Nat.le_refl _) (by simp; omega), ← flat_take css h.1 k, ← ht, List.take_take]
    congr 1
    have : k * sz ≤ n * sz := Nat.mul_le_mul_right _ hk
    omega
end Go.Proofs.YtnchjlimkgbfpaaGreatDoor

namespace Go.Proofs.YtnchjlimkgbfpaaGreatDoor
open Go.RowKit
set_option linter.unusedVariables false
set_option maxRecDepth 20000
def RowsF (w : World) (v : Value) (m : List FRow) : Prop := Rws 3 w v (m.map frow) ∧ ∀ y ∈ m, (∃ a n c, y.1 = .slice a n c) ∧ In64 y.2.1
theorem RowsF.up {w w' : World} {v : Value} {m : List FRow} (h : RowsF w v m) (hb : Below w.heap.size w w') : RowsF w' v m := ⟨h.1.up hb, h.2⟩
theorem RowsF.at {w : World} {v : Value} {m : List FRow} (h : RowsF w v m) (k : Nat) (hk : k < m.length) :
    ∃ b off cap a n c, v = .slice (some ⟨b, off, none⟩) m.length cap ∧ m.length ≤ cap ∧ cap ≤ maxLen ∧ (m.getD k (undef, 0, [], 0)).1 = .slice a n c ∧ w.cell? ⟨b, off + k * 3, none⟩ = some (.int .i64 (m.getD k (undef, 0, [], 0)).2.1) ∧ w.cell? ⟨b, off + k * 3 + 1, none⟩ = some (.slice a n c) ∧
      w.cell? ⟨b, off + k * 3 + 2, none⟩ = some (.int .i64 (m.getD k (undef, 0, [], 0)).2.2.2) ∧ In64 (m.getD k (undef, 0, [], 0)).2.1 := by
  obtain ⟨b, off, cap, e, h1, h2, hc⟩ := h.1.at k (by rw [List.length_map]; exact hk)
  rw [List.length_map] at e h1
  have hr : (m.map frow).getD k [] = frow (m.getD k (undef, 0, [], 0)) := by simp [List.getD, hk]
  rw [hr] at hc
  have hm : m.getD k (undef, 0, [], 0) ∈ m := by simp [List.getD, hk]
  obtain ⟨⟨a, n, c, e1⟩, hi⟩ := h.2 _ hm
  have c1 := hc 1 _ rfl
  rw [e1] at c1
  exact ⟨b, off, cap, a, n, c, e, h1, h2, e1, hc 0 _ rfl, c1, hc 2 _ rfl, hi⟩
theorem RowsF.len {w : World} {v : Value} {m : List FRow} (h : RowsF w v m) : ∃ a cap, v = .slice a m.length cap ∧ m.length ≤ cap ∧ cap ≤ maxLen := by
  obtain ⟨a, cap, e, h1, h2⟩ := h.1.len
  rw [List.length_map] at e h1
  exact ⟨a, cap, e, h1, h2⟩
end Go.Proofs.YtnchjlimkgbfpaaGreatDoor

namespace Go.Proofs.YtnchjlimkgbfpaaGreatDoor
open Go.RowKit
set_option linter.unusedVariables false
set_option maxRecDepth 20000
theorem filter_take_snoc {A : Type} (p : A → Bool) (l : List A) (k : Nat) (d : A) (h : k < l.length) : (l.take (k + 1)).filter p = (l.take k).filter p ++ (if p (l.getD k d) then [l.getD k d] else []) := by
  rw [take_snoc l k d h, List.filter_append]
  congr 1
  by_cases q : p (l.getD k d) = true
  · rw [if_pos q, List.filter_cons_of_pos q]; rfl
  · rw [if_neg q, List.filter_cons_of_neg q]; rfl
end Go.Proofs.YtnchjlimkgbfpaaGreatDoor

namespace Go.Proofs.YtnchjlimkgbfpaaGreatDoor
open Go.RowKit
set_option linter.unusedVariables false
set_option maxRecDepth 20000
set_option linter.unusedSimpArgs false
theorem addId_mem (ids : List Int) (x y : Int) : (addId ids x).contains y = (ids.contains y || (y == x)) := by
  unfold addId
  by_cases e : y = x
  · subst e
    split <;> simp_all
  · split
    · simp [e]
    · simp [e]
theorem idsOf_mem (l : List (List Int × Int)) (x : Int) : (idsOf l).contains x = standsOf l x := by
  have h : ∀ (k : List (List Int × Int)) (acc : List Int), ((k.map (·.2)).foldl addId acc).contains x = (acc.contains x || standsOf k x) := by
    intro k
    induction k with
    | nil => intro acc; simp [standsOf]
    | cons p k ih =>
      intro acc
      rw [List.map_cons, List.foldl_cons, ih, addId_mem]
      simp only [standsOf, List.any_cons]
      rw [Bool.or_assoc]
      congr 2
      rw [Bool.eq_iff_iff]
      simp only [beq_iff_eq]
      exact eq_comm
  have := h l []
  simpa [idsOf] using this
def sweptOf (s : St) : St := { s with files := s.files.filter fun f => standsOf s.names f.1 || standsOf s.safe f.1 }
structure Beside (base B : Nat) (w w' : World) : Prop where
  os : w'.os = w.os
  tape : w'.tape = w.tape
  output : w'.output = w.output
  size : w.heap.size ≤ w'.heap.size
  block : ∀ k, k < base → k ≠ B → w'.heap[k]? = w.heap[k]?
theorem Beside.refl (base B : Nat) (w : World) : Beside base B w w := ⟨rfl, rfl, rfl, Nat.le_refl _, fun _ _ _ => rfl⟩
theorem Beside.trans {base B : Nat} {a b c : World} (h : Beside base B a b) (k : Beside base B b c) : Beside base B a c :=
  ⟨k.os.trans h.os, k.tape.trans h.tape, k.output.trans h.output, Nat.le_trans h.size k.size, fun i hi hn => (k.block i hi hn).trans (h.block i hi hn)⟩
theorem Beside.grown {base B : Nat} {a w w' : World} {r : Option Nat} (h : Beside base B a w) (hg : w.grownBy w' r) (hB : base ≤ w.heap.size) (hr : ∀ k, r = some k → base ≤ k ∨ k = B) : Beside base B a w' :=
  h.trans ⟨hg.os, hg.tape, hg.output, hg.size, fun k hk hn => hg.block k (by omega) (fun e => by have := hr k e.symm; omega)⟩
theorem Beside.drew {base B : Nat} {a w : World} (h : Beside base B a w) : Beside base B a w.drew := ⟨h.os, h.tape, h.output, h.size, h.block⟩
theorem Beside.below {base B : Nat} {w w' : World} (h : Beside base B w w') (hB : base ≤ B) : Below base w w' := ⟨h.os, h.tape, h.output, h.size, fun k hk => h.block k hk (by omega)⟩
def OwnS (w : World) (base B : Nat) (s : St) : Prop := True ∧ ∃ vf vn vs m, w.heap[B]? = some (.cells #[.int .i64 s.cap, vf, vn, vs, .int .i64 s.next] 35) ∧ m.map (·.2) = s.files ∧ OwnF w base vf m ∧ OwnN w base 146 vn s.names ∧ OwnN w base 146 vs s.safe ∧ Apart vn vs ∧ In64 s.cap ∧ In64 s.next
theorem OwnS.up {w w' : World} {base B : Nat} {s : St} (h : OwnS w base B s) (hb : Below w.heap.size w w') : OwnS w' base B s := by
  obtain ⟨h0, vf, vn, vs, m, hb1, hm, h1, h2, h3, h4⟩ := h
  exact ⟨h0, vf, vn, vs, m, blk_up hb1 hb, hm, h1.up hb, h2.up hb, h3.up hb, h4⟩
theorem OwnF.filter {w w' : World} {base : Nat} {v v' : Value} {m : List FRow} (p : FRow → Bool) {r : Option Nat} (h : OwnF w base v m) (hv : OwnR w' base 110 3 v' ((m.filter p).map frow)) (hg : w.grownBy w' v.ownBlock) : OwnF w' base v' (m.filter p) := by
  refine ⟨hv, fun y hy => ?_, h.2.2.filter p⟩
  have h1 := h.2.1 y (List.mem_filter.1 hy).1
  exact ⟨h1.1.far hg (own_own_ne h1.1 h.1.2 (by decide)), h1.2⟩
theorem blk_two0 (w : World) (o1 o2 : Obj) : ((w.alloc o1).alloc o2).heap[w.heap.size]? = some o1 := blk_up (blk_new w o1) (up_al (Below.refl _ _) _)
theorem blk_two1 (w : World) (o1 o2 : Obj) : ((w.alloc o1).alloc o2).heap[w.heap.size + 1]? = some o2 := by
  have := blk_new (w.alloc o1) o2
  simpa using this
end Go.Proofs.YtnchjlimkgbfpaaGreatDoor

namespace Go.Proofs.YtnchjlimkgbfpaaGreatDoor
open Go.RowKit
set_option linter.unusedVariables false
set_option maxRecDepth 20000
end Go.Proofs.YtnchjlimkgbfpaaGreatDoor

namespace Go.Proofs.YtnchjlimkgbfpaaGreatDoor
open Go.RowKit
set_option linter.unusedVariables false
set_option maxRecDepth 20000
def Near (w : World) (v v' : Value) : Prop := v'.ownBlock = v.ownBlock ∨ ∀ b, v'.ownBlock = some b → w.heap.size ≤ b
theorem Near.apart {w : World} {v v' u : Value} {base : Nat} {e : TypeId} {sz n : Nat} {xs : List Value} (h : Near w v v') (ha : Apart v u) (hu : w.ownsRow base e sz u n xs) : Apart v' u := by
  unfold Apart at *
  rcases h with h | h
  · rw [h]
    rcases ha with q | q
    · exact .inl q
    · exact .inr q
  · cases hv : v'.ownBlock with
    | none => exact .inl rfl
    | some b =>
      refine .inr ?_
      intro q
      have h1 := h b hv
      have h2 := (hu.lt b q.symm).2
      omega
def insN (l : List (List Int × Int)) (i : Nat) (x : List Int × Int) : List (List Int × Int) := l.take i ++ x :: l.drop i
theorem insN_mem {l : List (List Int × Int)} {i : Nat} {x p : List Int × Int} (h : p ∈ insN l i x) : p = x ∨ p ∈ l := by
  unfold insN at h
  rcases List.mem_append.1 h with q | q
  · exact .inr (List.mem_of_mem_take q)
  · rcases List.mem_cons.1 q with r | r
    · exact .inl r
    · exact .inr (List.mem_of_mem_drop r)
end Go.Proofs.YtnchjlimkgbfpaaGreatDoor

namespace Go.Proofs.YtnchjlimkgbfpaaGreatDoor
open Go.RowKit
set_option linter.unusedVariables false
set_option maxRecDepth 20000
end Go.Proofs.YtnchjlimkgbfpaaGreatDoor

namespace Go.Proofs.YtnchjlimkgbfpaaGreatDoor
open Go.RowKit
set_option linter.unusedVariables false
set_option maxRecDepth 20000
def OpenS (w : World) (base B : Nat) (s : St) (af : Option Addr) (cf : Nat) (an : Option Addr) (cn : Nat) (as' : Option Addr) (cs' : Nat) (m : List FRow) : Prop :=
  True ∧ w.heap[B]? = some (.cells #[.int .i64 s.cap, .slice af m.length cf, .slice an s.names.length cn, .slice as' s.safe.length cs', .int .i64 s.next] 35) ∧ m.map (·.2) = s.files ∧ OwnF w base (.slice af m.length cf) m ∧
    OwnN w base 146 (.slice an s.names.length cn) s.names ∧ OwnN w base 146 (.slice as' s.safe.length cs') s.safe ∧ Apart (.slice an s.names.length cn) (.slice as' s.safe.length cs') ∧ In64 s.cap ∧ In64 s.next
theorem OpenS.up {w w' : World} {base B : Nat} {s : St} {af : Option Addr} {cf : Nat} {an : Option Addr} {cn : Nat} {as' : Option Addr} {cs' : Nat} {m : List FRow} (h : OpenS w base B s af cf an cn as' cs' m) (hb : Below w.heap.size w w') : OpenS w' base B s af cf an cn as' cs' m := by
  obtain ⟨hB, h1, hm, of, on, os, hap, hi1, hi2⟩ := h
  exact ⟨hB, blk_up h1 hb, hm, of.up hb, on.up hb, os.up hb, hap, hi1, hi2⟩
def Fine (s : St) : Prop := s.files.length ≤ 256 ∧ s.names.length ≤ 256 ∧ s.safe.length ≤ 256 ∧ RiseN s.names ∧ RiseF s.files
def syncNamesP (s : St) : St := sweptOf { s with safe := s.names }
def removeP (s : St) (name : List Int) : St × Int := if thereN s.names name then (sweptOf { s with names := s.names.eraseIdx (rankN s.names name) }, 0) else (s, 71)
end Go.Proofs.YtnchjlimkgbfpaaGreatDoor

namespace Go.Proofs.YtnchjlimkgbfpaaGreatDoor
open Go.RowKit
set_option linter.unusedVariables false
set_option maxRecDepth 20000
abbrev noF : FRow := (undef, 0, [], 0)
theorem octR_len (l : List Int) : ∀ cs ∈ l.map (fun x => [Value.int .u8 x]), cs.length = 1 := by
  intro cs hcs
  obtain ⟨p, _, rfl⟩ := List.mem_map.1 hcs
  rfl
theorem octR_flat (l : List Int) : (l.map (fun x => [Value.int .u8 x])).flatten = l.map (Value.int .u8) := by
  induction l with
  | nil => rfl
  | cons x l ih => simp [ih]
theorem OwnB.rows {w : World} {base : Nat} {v : Value} {l : List Int} (h : OwnB w base v l) : OwnR w base 5 1 v (l.map (fun x => [Value.int .u8 x])) := by
  refine ⟨octR_len l, ?_⟩
  rw [octR_flat, List.length_map]
  exact h
theorem OwnR.octs {w : World} {base : Nat} {v : Value} {l : List Int} (h : OwnR w base 5 1 v (l.map (fun x => [Value.int .u8 x]))) : OwnB w base v l := by
  have := h.2
  rw [octR_flat, List.length_map] at this
  exact this
theorem pairwise_set {m : List FRow} {i : Nat} {y : FRow} (hi : i < m.length) (h : m.Pairwise (fun a b => Apart a.1 b.1)) (hy : ∀ j, j < m.length → j ≠ i → Apart y.1 (m.getD j noF).1) : (m.set i y).Pairwise (fun a b => Apart a.1 b.1) := by
  rw [List.pairwise_iff_getElem] at h ⊢
  intro a b ha hb hab
  have ha' : a < m.length := by simpa using ha
  have hb' : b < m.length := by simpa using hb
  rw [List.getElem_set, List.getElem_set]
  by_cases e1 : i = a
  · have e2 : ¬ i = b := by omega
    rw [if_pos e1, if_neg e2]
    have := hy b hb' (fun q => e2 q.symm)
    simpa [List.getD, hb'] using this
  · rw [if_neg e1]
    by_cases e2 : i = b
    · rw [if_pos e2]
      have := hy a ha' (fun q => e1 q.symm)
      exact Apart.symm (by simpa [List.getD, ha'] using this)
    · rw [if_neg e2]
      exact h a b ha' hb' hab
theorem apart_at {m : List FRow} (h : m.Pairwise (fun a b => Apart a.1 b.1)) (i j : Nat) (hi : i < m.length) (hj : j < m.length) (hne : i ≠ j) : Apart (m.getD i noF).1 (m.getD j noF).1 := by
  rw [List.pairwise_iff_getElem] at h
  rcases Nat.lt_or_ge i j with c | c
  · have := h i j hi hj c
    simpa [List.getD, hi, hj] using this
  · have := h j i hj hi (by omega)
    have := this.symm
    simpa [List.getD, hi, hj] using this
theorem OwnF.sync {w : World} {base g n c : Nat} {m : List FRow} (h : OwnF w base (.slice (some ⟨g, 0, none⟩) n c) m) (hn : m.length = n) (i : Nat) (hi : i < n) (k : Int) (hk : In64 k) :
    OwnF (w.setCell ⟨g, i * 3 + 2, none⟩ (.int .i64 k)) base (.slice (some ⟨g, 0, none⟩) n c) (m.set i ((m.getD i noF).1, (m.getD i noF).2.1, (m.getD i noF).2.2.1, k)) := by
  have st := OwnR.set h.1 (by rw [List.length_map]; exact hn) i hi 2 (by decide) (.int .i64 k)
  have hmem : m.getD i noF ∈ m := by
    have : i < m.length := by omega
    simp [List.getD, this]
  have hrow : ((m.map frow).getD i []).set 2 (.int .i64 k) = frow ((m.getD i noF).1, (m.getD i noF).2.1, (m.getD i noF).2.2.1, k) := by
    have : i < m.length := by omega
    simp [List.getD, this, frow]
  rw [hrow, ← List.map_set] at st
  refine ⟨st.1, ?_, ?_⟩
  · intro y hy
    rcases List.mem_or_eq_of_mem_set hy with q | q
    · have := h.2.1 y q
      exact ⟨this.1.far st.2.1 (own_own_ne this.1 h.1.2 (by decide)), this.2⟩
    · have := h.2.1 _ hmem
      rw [q]
      exact ⟨this.1.far st.2.1 (own_own_ne this.1 h.1.2 (by decide)), this.2.1, this.2.2.1, this.2.2.2.1, hk⟩
  · refine pairwise_set (by omega) h.2.2 fun j hj hne => ?_
    exact apart_at h.2.2 i j (by omega) hj (fun q => hne q.symm)
theorem OwnF.data {w w1 : World} {base g n c : Nat} {m : List FRow} (h : OwnF w base (.slice (some ⟨g, 0, none⟩) n c) m) (hn : m.length = n) (i : Nat) (hi : i < n) {v' : Value} {d : List Int} (ho : OwnB w1 base v' d) (hg : w.grownBy w1 (m.getD i noF).1.ownBlock) (hnear : Near w (m.getD i noF).1 v') (hd : OctL d ∧ d.length ≤ 140737488355328) :
    OwnF (w1.setCell ⟨g, i * 3 + 1, none⟩ v') base (.slice (some ⟨g, 0, none⟩) n c) (m.set i (v', (m.getD i noF).2.1, d, (m.getD i noF).2.2.2)) := by
  have hmem : m.getD i noF ∈ m := by
    have : i < m.length := by omega
    simp [List.getD, this]
  have hi0 := h.2.1 _ hmem
  have hR1 := h.1.far hg (own_own_ne h.1.2 hi0.1 (by decide))
  have st := OwnR.set hR1 (by rw [List.length_map]; exact hn) i hi 1 (by decide) v'
  have hrow : ((m.map frow).getD i []).set 1 v' = frow (v', (m.getD i noF).2.1, d, (m.getD i noF).2.2.2) := by
    have : i < m.length := by omega
    simp [List.getD, this, frow]
  rw [hrow, ← List.map_set] at st
  have others : ∀ j, j < m.length → j ≠ i → OwnB w1 base (m.getD j noF).1 (m.getD j noF).2.2.1 := by
    intro j hj hne
    have hm : m.getD j noF ∈ m := by simp [List.getD, hj]
    exact (h.2.1 _ hm).1.far hg (apart_at h.2.2 j i hj (by omega) hne)
  refine ⟨st.1, ?_, ?_⟩
  · intro y hy
    obtain ⟨j, hj, rfl⟩ := List.getElem_of_mem hy
    have hj' : j < m.length := by simpa using hj
    rw [List.getElem_set]
    by_cases e : i = j
    · rw [if_pos e]
      exact ⟨ho.far st.2.1 (own_own_ne ho hR1.2 (by decide)), hd.1, hd.2, hi0.2.2.2.1, hi0.2.2.2.2⟩
    · rw [if_neg e]
      have h1 := others j hj' (fun q => e q.symm)
      have e1 : m.getD j noF = m[j] := by simp [List.getD, hj']
      rw [e1] at h1
      exact ⟨h1.far st.2.1 (own_own_ne h1 hR1.2 (by decide)), (h.2.1 m[j] (List.getElem_mem hj')).2⟩
  · refine pairwise_set (by omega) h.2.2 fun j hj hne => ?_
    have hm : m.getD j noF ∈ m := by simp [List.getD, hj]
    exact hnear.apart (apart_at h.2.2 i j (by omega) hj (fun q => hne q.symm)) (h.2.1 _ hm).1
end Go.Proofs.YtnchjlimkgbfpaaGreatDoor

namespace Go.Proofs.YtnchjlimkgbfpaaGreatDoor
open Go.RowKit
set_option linter.unusedVariables false
set_option maxRecDepth 20000
set_option linter.unusedSimpArgs false
def idN (s : St) (name : List Int) : Int := (s.names.getD (rankN s.names name) ([], 0)).2
def hasF (s : St) (name : List Int) : Bool := thereN s.names name && thereF s.files (idN s name)
def idxF (s : St) (name : List Int) : Nat := rankF s.files (idN s name)
def fileD (s : St) (i : Nat) : Int × List Int × Int := s.files.getD i (0, [], 0)
def syncP (s : St) (name : List Int) : St × Int := if hasF s name then ({ s with files := s.files.set (idxF s name) ((fileD s (idxF s name)).1, (fileD s (idxF s name)).2.1, ((fileD s (idxF s name)).2.1.length : Int)) }, 0) else (s, 71)
def extendP (s : St) (name data : List Int) : St × Int :=
  if hasF s name then
    if s.cap - usedOf s.files < (data.length : Int) then (s, 51) else ({ s with files := s.files.set (idxF s name) ((fileD s (idxF s name)).1, (fileD s (idxF s name)).2.1 ++ data, (fileD s (idxF s name)).2.2) }, 0)
  else (s, 71)
theorem idx_lt {s : St} {name : List Int} (h : hasF s name = true) : idxF s name < s.files.length := by
  unfold hasF thereF at h
  simp only [Bool.and_eq_true, decide_eq_true_eq] at h
  exact h.2.1
theorem OpenS.cells3 {w : World} {base B : Nat} {s : St} {g cf : Nat} {an : Option Addr} {cn : Nat} {as' : Option Addr} {cs' : Nat} {m : List FRow} (h : OpenS w base B s (some ⟨g, 0, none⟩) cf an cn as' cs' m) (i : Nat) (hi : i < m.length) :
    w.cell? ⟨g, i * 3, none⟩ = some (.int .i64 (m.getD i noF).2.1) ∧ w.cell? ⟨g, i * 3 + 1, none⟩ = some (m.getD i noF).1 ∧ w.cell? ⟨g, i * 3 + 2, none⟩ = some (.int .i64 (m.getD i noF).2.2.2) ∧ ∀ q, w.frozen? ⟨g, q, none⟩ = false := by
  obtain ⟨b, off, cap, e, _, _, hc⟩ := (Rws.own h.2.2.2.1.1).at i (by rw [List.length_map]; exact hi)
  simp at e
  obtain ⟨⟨rfl, rfl⟩, _⟩ := e
  have hr : (m.map frow).getD i [] = frow (m.getD i noF) := by simp [List.getD, hi]
  rw [hr] at hc
  have c0 := hc 0 _ rfl
  have c1 := hc 1 _ rfl
  have c2 := hc 2 _ rfl
  simp only [Nat.zero_add, Nat.add_zero] at c0 c1 c2
  refine ⟨c0, c1, c2, fun q => ?_⟩
  obtain ⟨cur, hh, _⟩ := h.2.2.2.1.1.blk
  exact blk_frozen hh q
end Go.Proofs.YtnchjlimkgbfpaaGreatDoor

namespace Go.Proofs.YtnchjlimkgbfpaaGreatDoor
open Go.RowKit
set_option linter.unusedVariables false
set_option maxRecDepth 20000
set_option linter.unusedSimpArgs false
def createP (s : St) (name : List Int) : St × Int :=
  if mayOf name then
    if thereN s.names name then (s, 6) else if s.files.length = 256 ∨ s.next = 2147483647 then (s, 51) else
      ({ s with names := insN s.names (rankN s.names name) (name, s.next), files := s.files ++ [(s.next, [], 0)], next := s.next + 1 }, 0)
  else (s, 31)
end Go.Proofs.YtnchjlimkgbfpaaGreatDoor

namespace Go.Proofs.YtnchjlimkgbfpaaGreatDoor
open Go.RowKit
set_option linter.unusedVariables false
set_option maxRecDepth 20000
set_option linter.unusedSimpArgs false
def renamed (l : List (List Int × Int)) (tn : List Int) (id : Int) : List (List Int × Int) :=
  if thereN l tn then l.set (rankN l tn) ((l.getD (rankN l tn) ([], 0)).1, id) else insN l (rankN l tn) (tn, id)
def renameP (s : St) (name tn : List Int) : St × Int :=
  if thereN s.names name then
    if mayOf tn then
      if tn = name then (s, 0) else (sweptOf { s with names := renamed (s.names.eraseIdx (rankN s.names name)) tn (idN s name) }, 0)
    else (s, 31)
  else (s, 71)
theorem getD_erase (l : List (List Int × Int)) (r k : Nat) (d : List Int × Int) : (l.eraseIdx r).getD k d = if k < r then l.getD k d else l.getD (k + 1) d := by
  simp only [List.getD, List.getElem?_eraseIdx]
  split <;> rfl
theorem RiseN.erase {l : List (List Int × Int)} (h : RiseN l) (r : Nat) (hr : r < l.length) : RiseN (l.eraseIdx r) := by
  intro a b hab hb
  have hlen : (l.eraseIdx r).length = l.length - 1 := by rw [List.length_eraseIdx, if_pos hr]
  rw [getD_erase, getD_erase]
  split <;> split
  · exact h _ _ hab (by omega)
  · exact h _ _ (by omega) (by omega)
  · omega
  · exact h _ _ (by omega) (by omega)
end Go.Proofs.YtnchjlimkgbfpaaGreatDoor

namespace Go.Proofs.YtnchjlimkgbfpaaGreatDoor
open Go.RowKit
set_option linter.unusedVariables false
set_option maxRecDepth 20000
set_option linter.unusedSimpArgs false
structure Ac where
  what : Int
  name : List Int
  dest : List Int
  data : List Int
def okAc (a : Ac) : Prop := In64 a.what ∧ OctL a.name ∧ a.name.length ≤ 140737488355328 ∧ OctL a.dest ∧ a.dest.length ≤ 140737488355328 ∧ a.data.length ≤ 140737488355328
def AcW (w : World) (v : Value) (a : Ac) : Prop := ∃ vd, v = .agg #[.int .i64 a.what, .string (strOfNums a.name), .string (strOfNums a.dest), vd] ∧ Octs w vd a.data ∧ okAc a
theorem AcW.up {w w' : World} {v : Value} {a : Ac} (h : AcW w v a) (hb : Below w.heap.size w w') : AcW w' v a := by
  obtain ⟨vd, e, h1, h2⟩ := h
  exact ⟨vd, e, h1.up hb, h2⟩
def actP (s : St) (a : Ac) : St × Int :=
  if a.what = 1 then createP s a.name else if a.what = 2 then extendP s a.name a.data else if a.what = 3 then syncP s a.name else
  if a.what = 4 then renameP s a.name a.dest else if a.what = 5 then removeP s a.name else if a.what = 6 then (syncNamesP s, 0) else (s, 22)
def Sound (s : St) : Prop := Fine s ∧ (0 ≤ s.cap ∧ s.cap ≤ 16777216) ∧ (1 ≤ s.next ∧ s.next ≤ 2147483647)
end Go.Proofs.YtnchjlimkgbfpaaGreatDoor

namespace Go.Proofs.YtnchjlimkgbfpaaGreatDoor
open Go.RowKit
set_option linter.unusedVariables false
set_option maxRecDepth 20000
theorem nodup_le : ∀ (l k : List Int), l.Nodup → (∀ x ∈ l, x ∈ k) → l.length ≤ k.length
  | [], k, _, _ => by simp
  | x :: l, k, hn, hs => by
    have hx : x ∈ k := hs x (by simp)
    rw [List.nodup_cons] at hn
    have h1 : ∀ y ∈ l, y ∈ k.erase x := by
      intro y hy
      have hne : y ≠ x := fun e => hn.1 (e ▸ hy)
      exact (List.mem_erase_of_ne hne).2 (hs y (by simp [hy]))
    have := nodup_le l (k.erase x) hn.2 h1
    rw [List.length_erase_of_mem hx] at this
    have hp : 0 < k.length := List.length_pos_of_mem hx
    simp only [List.length_cons]
    omega
theorem addId_nodup {ids : List Int} (h : ids.Nodup) (x : Int) : (addId ids x).Nodup := by
  unfold addId
  split
  · exact h
  · rename_i hc
    rw [List.nodup_append]
    refine ⟨h, by simp, ?_⟩
    intro a ha b hb
    simp at hb
    subst hb
    intro e
    subst e
    simp at hc
    exact hc ha
theorem idsOf_nodup (l : List (List Int × Int)) : (idsOf l).Nodup := by
  unfold idsOf
  have h : ∀ (m acc : List Int), acc.Nodup → (m.foldl addId acc).Nodup := by
    intro m
    induction m with
    | nil => intro acc h; exact h
    | cons x m ih => intro acc h; exact ih _ (addId_nodup h x)
  exact h _ _ (by simp)
theorem mem_idsOf (l : List (List Int × Int)) (x : Int) : x ∈ idsOf l ↔ ∃ p ∈ l, p.2 = x := by
  have h := idsOf_mem l x
  constructor
  · intro hx
    have : (idsOf l).contains x = true := by simpa using hx
    rw [h] at this
    unfold standsOf at this
    rw [List.any_eq_true] at this
    obtain ⟨p, hp, e⟩ := this
    exact ⟨p, hp, by simpa using e⟩
  · rintro ⟨p, hp, rfl⟩
    have : standsOf l p.2 = true := by
      unfold standsOf
      rw [List.any_eq_true]
      exact ⟨p, hp, by simp⟩
    rw [← h] at this
    simpa using this
theorem thereF_mem {fs : List (Int × List Int × Int)} {id : Int} (h : thereF fs id = true) : id ∈ fs.map (·.1) := by
  unfold thereF at h
  simp only [Bool.and_eq_true, decide_eq_true_eq] at h
  rw [List.mem_map]
  refine ⟨fs.getD (rankF fs id) (0, [], 0), ?_, h.2⟩
  simp [List.getD, h.1]
theorem names_ok {fs : List (Int × List Int × Int)} {l : List (List Int × Int)} (h : namesMayOf fs l = true) : (∀ k, k < l.length → okNameP fs l k = true) ∧ (idsOf l).length = l.length := by
  unfold namesMayOf at h
  rw [Bool.and_eq_true, decide_eq_true_eq] at h
  exact ⟨all_range_get h.1, h.2⟩
theorem names_there {fs : List (Int × List Int × Int)} {l : List (List Int × Int)} (h : namesMayOf fs l = true) : ∀ p ∈ l, thereF fs p.2 = true := by
  intro p hp
  obtain ⟨k, hk, rfl⟩ := List.getElem_of_mem hp
  have := (names_ok h).1 k hk
  unfold okNameP nameAt at this
  simp only [Bool.and_eq_true] at this
  have e : l.getD k ([], 0) = l[k] := by simp [List.getD, hk]
  rw [e] at this
  exact this.2
theorem names_len {fs : List (Int × List Int × Int)} {l : List (List Int × Int)} (h : namesMayOf fs l = true) : l.length ≤ fs.length := by
  rw [← (names_ok h).2]
  have := nodup_le (idsOf l) (fs.map (·.1)) (idsOf_nodup l) (by
    intro x hx
    obtain ⟨p, hp, rfl⟩ := (mem_idsOf l x).1 hx
    exact thereF_mem (names_there h p hp))
  simpa using this
theorem names_rise {fs : List (Int × List Int × Int)} {l : List (List Int × Int)} (h : namesMayOf fs l = true) : RiseN l := by
  intro a b hab hb
  induction b with
  | zero => omega
  | succ b ih =>
    have h1 := (names_ok h).1 (b + 1) hb
    unfold okNameP nameAt at h1
    simp only [Bool.and_eq_true, Bool.or_eq_true, decide_eq_true_eq] at h1
    have h2 : lessL (l.getD b ([], 0)).1 (l.getD (b + 1) ([], 0)).1 = true := by
      rcases h1.1.2 with q | q
      · omega
      · simpa using q
    rcases Nat.lt_or_ge a b with c | c
    · exact lessL_trans _ _ _ (ih c (by omega)) h2
    · obtain rfl : a = b := by omega
      exact h2
theorem check_parts {s : St} (h : checkP s = true) : boundsOf s = true ∧ filesMayOf s = true ∧ namesMayOf s.files s.names = true ∧ namesMayOf s.files s.safe = true ∧ allNamedOf s = true := by
  unfold checkP at h
  simp only [Bool.and_eq_true] at h
  exact ⟨h.1.1.1.1, h.1.1.1.2, h.1.1.2, h.1.2, h.2⟩
theorem check_sound {s : St} (h : checkP s = true) : Sound s := by
  obtain ⟨h1, h2, h3, h4, h5⟩ := check_parts h
  have hb := bounds_len h1
  have hn := names_len h3
  have hs := names_len h4
  unfold boundsOf at h1
  simp only [Bool.and_eq_true, decide_eq_true_eq] at h1
  exact ⟨⟨hb, by omega, by omega, names_rise h3, filesMay_rise h2⟩, ⟨h1.1.1.1.1, h1.1.1.1.2⟩, ⟨h1.1.1.2, h1.1.2⟩⟩
end Go.Proofs.YtnchjlimkgbfpaaGreatDoor
