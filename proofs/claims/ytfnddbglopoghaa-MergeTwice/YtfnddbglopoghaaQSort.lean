/- slices.SortFunc of tables by order: a sorted arrangement of what the slice held; nothing else turns. -/
import Derived.Shelf.SlSortCmp.WholeK
import Derived.Shelf.SlSortCmp.NoneTotal
import Derived.Test.YtfnddbglopoghaaQOrd
import Derived.Test.YtfnddbglopoghaaNMath
namespace Go.Proofs.Ytfnddbglopoghaa
open Go.Shelf Go.RowKit Go.Lib Go.Sort
set_option linter.unusedVariables false
set_option linter.unusedSimpArgs false

def Try.sortMe_ren : Go.Shelf.Ren := ⟨fun | 6 => 34 | 14 => 44 | 15 => 45 | 20 => 50 | 21 => 51 | 22 => 52 | 23 => 53 | 24 => 54 | 25 => 55 | 26 => 56 | 27 => 57 | 28 => 58 | 29 => 59 | 46 => 66 | 47 => 67 | 48 => 68 | 49 => 69 | 50 => 70 | 57 => 74 | n => n, fun | 22 => 22 | 24 => 47 | 25 => 65 | 3 => 3 | 39 => 76 | 0 => 0 | 53 => 92 | 55 => 94 | 4 => 4 | 46 => 85 | 45 => 84 | 50 => 89 | 5 => 5 | 9 => 9 | 66 => 100 | 70 => 104 | 76 => 111 | 77 => 112 | n => n, fun | n => n⟩
theorem Try.sortMe : Go.Proofs.SlLaysF0.n6 Try.prog Try.sortMe_ren := {
  mixed := by kernel_rfl
  f6 := ⟨Try.f34.name, by decide, Try.func34.trans (congrArg some (by kernel_rfl))⟩
  f14 := ⟨Try.f44.name, by decide, Try.func44.trans (congrArg some (by kernel_rfl))⟩
  f15 := Try.func45.trans (congrArg some (by kernel_rfl))
  f20 := ⟨Try.f50.name, by decide, Try.func50.trans (congrArg some (by kernel_rfl))⟩
  f21 := ⟨Try.f51.name, by decide, Try.func51.trans (congrArg some (by kernel_rfl))⟩
  f22 := ⟨Try.f52.name, by decide, Try.func52.trans (congrArg some (by kernel_rfl))⟩
  f23 := ⟨Try.f53.name, by decide, Try.func53.trans (congrArg some (by kernel_rfl))⟩
  f24 := ⟨Try.f54.name, by decide, Try.func54.trans (congrArg some (by kernel_rfl))⟩
  f25 := ⟨Try.f55.name, by decide, Try.func55.trans (congrArg some (by kernel_rfl))⟩
  f26 := ⟨Try.f56.name, by decide, Try.func56.trans (congrArg some (by kernel_rfl))⟩
  f27 := ⟨Try.f57.name, by decide, Try.func57.trans (congrArg some (by kernel_rfl))⟩
  f28 := Try.func58.trans (congrArg some (by kernel_rfl))
  f29 := Try.func59.trans (congrArg some (by kernel_rfl))
  f46 := ⟨Try.f66.name, by decide, Try.func66.trans (congrArg some (by kernel_rfl))⟩
  f47 := Try.func67.trans (congrArg some (by kernel_rfl))
  f48 := Try.func68.trans (congrArg some (by kernel_rfl))
  f49 := ⟨Try.f69.name, by decide, Try.func69.trans (congrArg some (by kernel_rfl))⟩
  f50 := ⟨Try.f70.name, by decide, Try.func70.trans (congrArg some (by kernel_rfl))⟩
  f57 := ⟨Try.f74.name, by decide, Try.func74.trans (congrArg some (by kernel_rfl))⟩
  t0 := Try.underlying0
  a0 := Try.isAgg0
  z0 := Try.sizeOf0
  v0 := Try.zeroValue0
  t3 := Try.underlying3
  a3 := Try.isAgg3
  z3 := Try.sizeOf3
  v3 := Try.zeroValue3
  t4 := Try.underlying4
  a4 := Try.isAgg4
  z4 := Try.sizeOf4
  v4 := Try.zeroValue4
  t5 := Try.underlying5
  a5 := Try.isAgg5
  z5 := Try.sizeOf5
  v5 := Try.zeroValue5
  t9 := Try.underlying9
  a9 := Try.isAgg9
  z9 := Try.sizeOf9
  v9 := Try.zeroValue9
  t22 := Try.underlying22
  a22 := Try.isAgg22
  z22 := Try.sizeOf22
  v22 := Try.zeroValue22
  t25 := Try.underlying65
  a25 := Try.isAgg65
  z25 := Try.sizeOf65
  v25 := Try.zeroValue65
  t39 := Try.underlying76
  a39 := Try.isAgg76
  z39 := Try.sizeOf76
  v39 := Try.zeroValue76
  t45 := Try.underlying84
  a45 := Try.isAgg84
  z45 := Try.sizeOf84
  v45 := Try.zeroValue84
  t46 := Try.underlying85
  a46 := Try.isAgg85
  z46 := Try.sizeOf85
  v46 := Try.zeroValue85
  t50 := Try.underlying89
  a50 := Try.isAgg89
  z50 := Try.sizeOf89
  v50 := Try.zeroValue89
  t53 := Try.underlying92
  a53 := Try.isAgg92
  z53 := Try.sizeOf92
  v53 := Try.zeroValue92
  t55 := Try.underlying94
  a55 := Try.isAgg94
  z55 := Try.sizeOf94
  v55 := Try.zeroValue94
  t66 := Try.underlying100
  a66 := Try.isAgg100
  z66 := Try.sizeOf100
  v66 := Try.zeroValue100
  t70 := Try.underlying104
  a70 := Try.isAgg104
  z70 := Try.sizeOf104
  v70 := Try.zeroValue104
  t76 := Try.underlying111
  a76 := Try.isAgg111
  z76 := Try.sizeOf111
  v76 := Try.zeroValue111
  t77 := Try.underlying112
  a77 := Try.isAgg112
  z77 := Try.sizeOf112
  v77 := Try.zeroValue112 }

theorem isAgg47 (w : World) : (isAgg 47).run Try.prog w = .ok true w := by kernel_rfl
theorem sizeOf47 (w : World) : (Go.sizeOf 47).run Try.prog w = .ok 4 w := by kernel_rfl

theorem befE_irrefl (a : En) : beforeE a a = false := by
  cases q : beforeE a a with
  | false => rfl
  | true => exact absurd q (bef_self a)
theorem befE_ntrans (a b c : En) (h1 : beforeE a b = false) (h2 : beforeE b c = false) : beforeE a c = false := by
  cases q : beforeE a c with
  | false => rfl
  | true => exact absurd q (le_trans (a := c) (b := b) (c := a) (by rw [h2]; decide) (by rw [h1]; decide))
theorem ltOf_ord (x y : En) : ltOf ordC x y = beforeE x y := ordC_lt x y
theorem swoM : SWO (ltOf ordC) where
  irrefl x := by rw [ltOf_ord]; exact befE_irrefl x
  trans x y z h1 h2 := by rw [ltOf_ord] at *; exact bef_trans h1 h2
  ntrans x y z h1 h2 := by rw [ltOf_ord] at *; exact befE_ntrans x y z h1 h2

set_option maxHeartbeats 4000000 in
theorem cmpLays35 (blk off size : Nat) (w : World) : CmpLays Try.prog 35 #[] enRow 4 ordC blk off size w :=
  fun m os dk _ x y => (order_any x y _).mono fun e w' ⟨he, hw⟩ => by
    subst he
    by_cases h : beforeE x y = true
    · refine ⟨rfl, 0, #[enObj x] ++ #[enObj y] ++ #[enObj x] ++ #[enObj y], ?_⟩
      rw [hw]
      unfold ordW
      rw [if_pos h, alloc_eq_grow, alloc_eq_grow, alloc_eq_grow, alloc_eq_grow, grow_grow, grow_grow, grow_grow]
      rfl
    · refine ⟨rfl, 0, #[enObj x] ++ #[enObj y] ++ #[enObj x] ++ #[enObj y] ++ #[enObj y] ++ #[enObj x], ?_⟩
      rw [hw]
      unfold ordW
      rw [if_neg h, alloc_eq_grow, alloc_eq_grow, alloc_eq_grow, alloc_eq_grow, alloc_eq_grow, alloc_eq_grow, grow_grow, grow_grow, grow_grow, grow_grow, grow_grow]
      rfl

theorem enRow_len (x : En) : (enRow x).length = 4 := rfl
theorem flatK_list (d : Array En) : (flatK enRow 4 d).toList = (d.toList.map enRow).flatten := by
  have hx : ∀ cs ∈ d.toList.map enRow, cs.length = 4 := by
    intro cs h
    obtain ⟨m, _, rfl⟩ := List.mem_map.1 h
    rfl
  refine List.ext_getElem? (fun t => ?_)
  by_cases ht : t < d.size * 4
  · have h1 : t / 4 < d.size := by omega
    have h2 : (d.toList.map enRow)[t / 4]? = some (enRow d[t / 4]) := by simp [h1]
    have h3 : (enRow d[t / 4])[t % 4]? = some (enRow d[t / 4])[t % 4]! := by
      have : t % 4 < (enRow d[t / 4]).length := by rw [enRow_len]; omega
      simp [this]
    have := flat_at (d.toList.map enRow) hx (t / 4) _ h2 (t % 4) _ h3
    rw [show t / 4 * 4 + t % 4 = t by omega] at this
    rw [this]
    simp [flatK, ht, h1]
  · have h1 : (flatK enRow 4 d).toList.length ≤ t := by simp; omega
    have h2 : (d.toList.map enRow).flatten.length ≤ t := by rw [flat_rows _ hx]; simp; omega
    rw [List.getElem?_eq_none h1, List.getElem?_eq_none h2]

theorem holdsK_of {w : World} {g : Nat} {cur : Array Value} {e : TypeId} {l : List En} (hb : w.heap[g]? = some (.cells cur e (0, 0))) (ht : cur.toList.take (l.length * 4) = (l.map enRow).flatten) : HoldsK enRow 4 w g 0 l.toArray := by
  intro j hj
  have hj' : j < l.length * 4 := by simpa using hj
  refine ⟨?_, by simp [World.frozen?, hb]⟩
  have h1 : (cur.toList.take (l.length * 4))[j]? = (l.map enRow).flatten[j]? := by rw [ht]
  rw [List.getElem?_take_of_lt hj'] at h1
  have h2 := flatK_list l.toArray
  rw [List.toList_toArray] at h2
  rw [← h2] at h1
  simp only [World.cell?, hb, Nat.zero_add]
  simp only [Option.isSome_none, Bool.false_eq_true, if_false]
  rw [← Array.getElem?_toList, h1, Array.getElem?_toList]
  rw [Array.getElem?_eq_getElem (by simpa using hj')]
  rw [getElem!_pos _ j hj]
  rfl
theorem heapK {w : World} {g n : Nat} {os : Array Obj} {cur : Array Value} {e : TypeId} {fr : Nat × Nat} (d : Array En) (hb : w.heap[g]? = some (.cells cur e fr)) :
    (sortWorldK enRow 4 w g 0 n d os).heap[g]? = some (.cells (putCells id 0 (flatK enRow 4 d) cur) e fr) := by
  have hg : g < w.heap.size := (Array.getElem?_eq_some_iff.1 hb).1
  unfold sortWorldK putRowK
  rw [heap_grow_old _ _ (by simpa using hg)]
  simp [putRow, mapBlock, Sort.ahead, Array.getElem?_modify, hb, onCells]
theorem grownByK {w : World} {g n : Nat} {os : Array Obj} (d : Array En) : w.grownBy (sortWorldK enRow 4 w g 0 n d os) (some g) := by
  unfold sortWorldK putRowK
  refine ⟨rfl, rfl, rfl, by simp, fun k hk hne => ?_⟩
  rw [heap_grow_old _ _ (by simpa using hk)]
  have : g ≠ k := fun e => hne (by rw [e])
  simp [putRow, mapBlock, Sort.ahead, Array.getElem?_modify, this]
theorem take_putK (cur F : Array Value) (h : F.size ≤ cur.size) : (putCells id 0 F cur).toList.take F.size = F.toList := by
  apply List.ext_getElem?
  intro j
  by_cases hj : j < F.size
  · rw [List.getElem?_take_of_lt hj, Array.getElem?_toList]
    simp [putCells, hj, show j < cur.size by omega]
  · rw [List.getElem?_take_eq_none (by omega), List.getElem?_eq_none (by simp; omega)]

/-- Sorted: none stands behind one that it ought to stand ahead of. -/
def SrtE (l : List En) : Prop := l.Pairwise (fun a b => beforeE b a = false)
theorem srtE_of {d : Array En} (h : SortedIn (ltOf ordC) 0 d.size d) : SrtE d.toList := by
  unfold SrtE
  rw [List.pairwise_iff_getElem]
  intro i j hi hj hij
  have := h i j (Nat.zero_le _) hij (by simpa using hj)
  rw [ltOf_ord, getElem!_pos _ j (by simpa using hj), getElem!_pos _ i (by simpa using hi)] at this
  simpa using this

set_option maxHeartbeats 1000000 in
theorem sort_any (l : List En) (a : Option Addr) (n c base : Nat) (w : World) (h : OwnR w base 47 4 (.slice a n c) (l.map enRow)) (hbase : base ≤ w.heap.size) (hl62 : l.length < 4611686018427387904) :
    Calls Try.prog 34 #[.slice a n c, .func (.func 35) #[] #[]] w fun e w' => e = .returned (.tuple #[]) ∧ Hid (∃ l', l'.Perm l ∧ SrtE l' ∧ OwnR w' base 47 4 (.slice a n c) (l'.map enRow)) ∧ Hid (Below base w w') := by
  have eg : ∀ args w, (callFunc 35 args).run Try.prog w = .ok (.enter 35 args) w := enters_of Try.func35 (by kernel_rfl) rfl
  obtain ⟨h0, h1, h2⟩ := h
  rcases h2 with ⟨hn, hz⟩ | ⟨g, cap, cur, hs, hg, hb, hc1, hc2, hc3, ht⟩
  · rw [hn]
    have hl : l = [] := by
      rw [List.length_map] at hz
      exact List.length_eq_zero_iff.1 hz
    subst hl
    have hcon := AnyF.slices_SortFunc_none Try.sortMe none 0 (.func (.func 35) #[] #[]) w
    change Calls Try.prog 34 _ _ _ at hcon
    refine hcon.mono ?_
    rintro e w' ⟨rfl, rfl⟩
    exact ⟨rfl, ⟨[], .refl _, List.Pairwise.nil, OwnR.nil _ _ _ _⟩, Below.refl _ _⟩
  · simp only [Value.slice.injEq, List.length_map] at hs hc1 ht
    obtain ⟨rfl, rfl, rfl⟩ := hs
    have hblk := (Array.getElem?_eq_some_iff.1 hb).1
    have hcon := AnyQ.slices_SortFunc Try.sortMe 4 isAgg47 sizeOf47 enRow enRow_len enRow_one ordC swoM 35 #[] g 0 c l.toArray w eg (cmpLays35 g 0 _ w) (holdsK_of hb ht) hblk (by simpa using hl62)
    change Calls Try.prog 34 _ _ _ at hcon
    simp only [List.size_toArray] at hcon
    refine hcon.mono ?_
    rintro e w' ⟨rfl, d', n', os, ⟨hp1, hp2, hp3⟩, hsd, rfl⟩
    simp only [List.size_toArray] at hp1
    have hpl : d'.toList.Perm l := by
      have e1 : (d'.extract 0 l.length).toList = d'.toList := by rw [← hp1]; simp
      have e2 : (l.toArray.extract 0 l.length).toList = l := by simp
      rw [e1, e2] at hp3
      exact hp3
    have hlen : d'.toList.length = l.length := hpl.length_eq
    refine ⟨rfl, ⟨d'.toList, hpl, srtE_of (by rw [hp1]; exact hsd), ?_, ?_⟩, ?_⟩
    · intro cs hcs
      obtain ⟨m, _, rfl⟩ := List.mem_map.1 hcs
      rfl
    · have hsz : (flatK enRow 4 d').size = l.length * 4 := by rw [size_flatK, hp1]
      refine ⟨?_, .inr ⟨g, c, _, ?_, hg, heapK d' hb, ?_, hc2, ?_, ?_⟩⟩
      · rw [← flatK_list]; simp [hp1]
      · simp [hp1]
      · simp [hp1]; exact hc1
      · simp [putCells, hc3]
      · rw [List.length_map, hlen, ← hsz, take_putK cur _ (by rw [hsz, hc3]; omega), flatK_list]
    · exact (Below.refl _ _).grown (grownByK d') hbase (fun k hk => by injection hk with hk; omega)
end Go.Proofs.Ytfnddbglopoghaa
