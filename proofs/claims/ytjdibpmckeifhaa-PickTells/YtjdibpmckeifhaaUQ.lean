/- Blocks of rows written over: clears, rows set; what is owned then. No Go function is walked here. -/
import Derived.Test.YtjdibpmckeifhaaRBase
import Derived.Test.YtjdibpmckeifhaaLBlk
import Derived.Deep.RegionLaw
import Derived.Laws.CopyRow
import Derived.Laws.IdiomCopy
import Derived.Lib.AppendZerosOnto
import Derived.Lib.Overlaps
import Derived.Laws.Externs
namespace Go.Proofs.Ytjdibpmckeifhaa
open Go.RowKit
set_option linter.unusedVariables false

/-- A list written over from place o on. -/
def over (l : List Value) (o : Nat) (vs : List Value) : List Value := l.take o ++ vs ++ l.drop (o + vs.length)

theorem over_len (l : List Value) (o : Nat) (vs : List Value) (h : o + vs.length ≤ l.length) : (over l o vs).length = l.length := by
  simp only [over, List.length_append, List.length_take, List.length_drop]
  omega

/-- Ahead of the place all is as it was. -/
theorem over_take (l : List Value) (o : Nat) (vs : List Value) (k : Nat) (hk : k ≤ o) (ho : o ≤ l.length) : (over l o vs).take k = l.take k := by
  unfold over
  rw [List.append_assoc, List.take_append_of_le_length (by rw [List.length_take]; omega), List.take_take]
  congr 1
  omega

theorem blk_setRow {w : World} {g : Nat} {cur : Array Value} {t : TypeId} {fr : Nat × Nat} (h : w.heap[g]? = some (.cells cur t fr)) (cs : Array Value) : (w.setRow g cs).heap[g]? = some (.cells cs t fr) ∧ w.grownBy (w.setRow g cs) (some g) := by
  refine ⟨?_, rfl, rfl, rfl, by simp [World.setRow], ?_⟩
  · simp only [World.setRow, Array.getElem?_modify, h]
    simp
  · intro k hk hne
    simp only [World.setRow, Array.getElem?_modify]
    rw [if_neg (by intro e; exact hne (by rw [e]))]

/-- 'clear(s)': elements of sz cells each. -/
theorem run_clear_rows (w : World) (t e ty : TypeId) (z : Value) (ht : Try.prog.underlying t = some (.slice e)) (hv : ∀ w, (zeroValue e).run Try.prog w = .ok z w) (h1 : ∀ v ∈ z.cells.toList, v.oneCell' = true) (g o n c : Nat) (hn : 0 < n)
    (cur : Array Value) (hg : w.heap[g]? = some (.cells cur e (0, 0))) (hfit : o + n * z.cells.size ≤ cur.size) :
    (Builtin.clear_ #[t] ty #[.slice (some ⟨g, o, none⟩) n c]).run Try.prog w = .ok (.tuple #[]) (w.setRow g (over cur.toList o (Builtin.zeroCells z.cells n).toList).toArray) := by
  have hsz : (Builtin.zeroCells z.cells n).toList.length = n * z.cells.size := by simp [Builtin.zeroCells]
  have hone : ∀ v ∈ (Builtin.zeroCells z.cells n).toList, v.oneCell' = true := by
    intro v hv'
    simp only [Builtin.zeroCells, Array.toList_map, List.mem_map] at hv'
    obtain ⟨i, hi, rfl⟩ := hv'
    have hi' : i < n * z.cells.size := by simpa using hi
    have hpos : 0 < z.cells.size := by
      rcases Nat.eq_zero_or_pos z.cells.size with q | q
      · rw [q] at hi'; simp at hi'
      · exact q
    have hm : i % z.cells.size < z.cells.size := Nat.mod_lt _ hpos
    rw [getElem!_pos z.cells _ hm]
    exact h1 _ (by simp)
  have hst := run_storeCells_at Try.prog g o e (Builtin.zeroCells z.cells n).toList 0 cur w hg (by rw [hsz]; simpa using hfit) hone
  simp only [Nat.add_zero] at hst
  obtain ⟨m, rfl⟩ : ∃ m, n = m + 1 := ⟨n - 1, by omega⟩
  unfold over
  simp only [Builtin.clear_]
  simp [run_underlying ht, hv, hst]

/-- What is owned, as the block has it. -/
theorem OwnR.blk {w : World} {base : Nat} {e : TypeId} {sz g n cap : Nat} {css : List (List Value)} (h : OwnR w base e sz (.slice (some ⟨g, 0, none⟩) n cap) css) :
    ∃ cur, w.heap[g]? = some (.cells cur e (0, 0)) ∧ base ≤ g ∧ n ≤ cap ∧ cap ≤ maxLen ∧ cur.size = cap * sz ∧ cur.toList.take (n * sz) = css.flatten ∧ css.length = n := by
  obtain ⟨hx, hl, h2⟩ := h
  rcases h2 with ⟨e1, _⟩ | ⟨g', cap', cur, e1, hb, hh, hn, hm, hs, ht⟩
  · simp at e1
  · simp at e1
    obtain ⟨rfl, rfl, rfl⟩ := e1
    exact ⟨cur, hh, hb, hn, hm, hs, ht, rfl⟩

theorem own_of_blk {w : World} {base : Nat} {e : TypeId} {sz g n cap : Nat} {css : List (List Value)} {cur : Array Value} (hx : ∀ cs ∈ css, cs.length = sz) (hh : w.heap[g]? = some (.cells cur e (0, 0))) (hb : base ≤ g) (hn : n ≤ cap) (hm : cap ≤ maxLen) (hs : cur.size = cap * sz)
    (ht : cur.toList.take (n * sz) = css.flatten) (hl : css.length = n) : OwnR w base e sz (.slice (some ⟨g, 0, none⟩) n cap) css := by
  subst hl
  refine ⟨hx, flat_rows css hx, .inr ⟨g, cap, cur, rfl, hb, hh, hn, hm, hs, ht⟩⟩

theorem flat_take {sz : Nat} : ∀ (css : List (List Value)) (_ : ∀ cs ∈ css, cs.length = sz) (k : Nat), css.flatten.take (k * sz) = (css.take k).flatten
  | [], _, k => by simp
  | c :: css, hx, 0 => by simp
  | c :: css, hx, k + 1 => by
    have hc := hx c (by simp)
    rw [List.flatten_cons, List.take_succ_cons, List.flatten_cons, ← flat_take css (fun d hd => hx d (by simp [hd])) k, List.take_append, hc, Nat.add_mul, Nat.one_mul, Nat.add_sub_cancel, List.take_of_length_le (by omega)]

theorem flat_drop {sz : Nat} (css : List (List Value)) (hx : ∀ cs ∈ css, cs.length = sz) (k : Nat) : css.flatten.drop (k * sz) = (css.drop k).flatten := by
  have h1 := flat_take css hx k
  have h2 : css.flatten = (css.take k).flatten ++ (css.drop k).flatten := by rw [← List.flatten_append, List.take_append_drop]
  rcases Nat.lt_or_ge k css.length with c | c
  · have h3 : (css.take k).flatten.length = k * sz := by
      rw [flat_rows _ (fun d hd => hx d (List.mem_of_mem_take hd)), List.length_take]
      congr 1
      omega
    rw [h2, List.drop_append_of_le_length (by omega), List.drop_of_length_le (by omega), List.nil_append]
  · rw [List.drop_of_length_le (by rw [flat_rows css hx]; exact Nat.mul_le_mul_right _ c), List.drop_of_length_le c]
    rfl

/-- The first k of what is owned, whatever was written behind them. -/
theorem OwnR.firstOver {w w' : World} {base : Nat} {e : TypeId} {sz g n cap : Nat} {css : List (List Value)} (h : OwnR w base e sz (.slice (some ⟨g, 0, none⟩) n cap) css) (k : Nat) (hk : k ≤ n) (cur : Array Value) (hc : w.heap[g]? = some (.cells cur e (0, 0))) (vs : List Value) (hfit : k * sz + vs.length ≤ cur.size)
    (hw : w'.heap[g]? = some (.cells (over cur.toList (k * sz) vs).toArray e (0, 0))) : OwnR w' base e sz (.slice (some ⟨g, 0, none⟩) k cap) (css.take k) := by
  obtain ⟨cur', hh, hb, hn, hm, hs, ht, hl⟩ := h.blk
  rw [hc] at hh
  simp at hh
  subst hh
  refine own_of_blk (fun cs hcs => h.1 cs (List.mem_of_mem_take hcs)) hw hb (by omega) hm ?_ ?_ (by rw [List.length_take]; omega)
  · have := over_len cur.toList (k * sz) vs (by simpa using hfit)
    simpa [hs] using this
  · have e1 : (over cur.toList (k * sz) vs).toArray.toList = over cur.toList (k * sz) vs := by simp
    rw [e1, over_take _ _ _ _ (Nat.le_refl _) (by simp; omega), ← flat_take css h.1 k, ← ht, List.take_take]
    congr 1
    have : k * sz ≤ n * sz := Nat.mul_le_mul_right _ hk
    omega
end Go.Proofs.Ytjdibpmckeifhaa
