
import Derived.Shelf.SlSortCmp.WholeK
import Derived.Shelf.SlSortCmp.NoneTotal
import Derived.Test.YthiegmhplnbdlaaGreatG38
import Derived.Test.YthiegmhplnbdlaaGreatG08
namespace Go.Proofs.YthiegmhplnbdlaaGreat
open Go.Shelf Go.RowKit Go.Lib Go.Sort
set_option linter.unusedVariables false
set_option linter.unusedSimpArgs false
def Tryz.sortMe_ren : Go.Shelf.Ren := ⟨fun | 6 => 60 | 14 => 87 | 15 => 88 | 20 => 101 | 21 => 102 | 22 => 103 | 23 => 104 | 24 => 105 | 25 => 106 | 26 => 107 | 27 => 108 | 28 => 109 | 29 => 95 | 46 => 116 | 47 => 117 | 48 => 118 | 49 => 119 | 50 => 120 | 57 => 125 | n => n, fun | 22 => 42 | 24 => 50 | 25 => 132 | 3 => 3 | 39 => 85 | 0 => 0 | 53 => 156 | 55 => 46 | 4 => 4 | 46 => 181 | 45 => 180 | 50 => 185 | 5 => 5 | 9 => 9 | 66 => 196 | 70 => 200 | 76 => 206 | 77 => 207 | n => n, fun | n => n⟩
theorem Tryz.sortMe : Go.Proofs.SlLaysF0.n6 Tryz.prog Tryz.sortMe_ren := {
  mixed := by kernel_rfl
  f6 := ⟨Tryz.f60.name, by decide, Tryz.func60.trans (congrArg some (by kernel_rfl))⟩
  f14 := ⟨Tryz.f87.name, by decide, Tryz.func87.trans (congrArg some (by kernel_rfl))⟩
  f15 := Tryz.func88.trans (congrArg some (by kernel_rfl))
  f20 := ⟨Tryz.f101.name, by decide, Tryz.func101.trans (congrArg some (by kernel_rfl))⟩
  f21 := ⟨Tryz.f102.name, by decide, Tryz.func102.trans (congrArg some (by kernel_rfl))⟩
  f22 := ⟨Tryz.f103.name, by decide, Tryz.func103.trans (congrArg some (by kernel_rfl))⟩
  f23 := ⟨Tryz.f104.name, by decide, Tryz.func104.trans (congrArg some (by kernel_rfl))⟩
  f24 := ⟨Tryz.f105.name, by decide, Tryz.func105.trans (congrArg some (by kernel_rfl))⟩
  f25 := ⟨Tryz.f106.name, by decide, Tryz.func106.trans (congrArg some (by kernel_rfl))⟩
  f26 := ⟨Tryz.f107.name, by decide, Tryz.func107.trans (congrArg some (by kernel_rfl))⟩
  f27 := ⟨Tryz.f108.name, by decide, Tryz.func108.trans (congrArg some (by kernel_rfl))⟩
  f28 := Tryz.func109.trans (congrArg some (by kernel_rfl))
  f29 := Tryz.func95.trans (congrArg some (by kernel_rfl))
  f46 := ⟨Tryz.f116.name, by decide, Tryz.func116.trans (congrArg some (by kernel_rfl))⟩
  f47 := Tryz.func117.trans (congrArg some (by kernel_rfl))
  f48 := Tryz.func118.trans (congrArg some (by kernel_rfl))
  f49 := ⟨Tryz.f119.name, by decide, Tryz.func119.trans (congrArg some (by kernel_rfl))⟩
  f50 := ⟨Tryz.f120.name, by decide, Tryz.func120.trans (congrArg some (by kernel_rfl))⟩
  f57 := ⟨Tryz.f125.name, by decide, Tryz.func125.trans (congrArg some (by kernel_rfl))⟩
  t0 := Tryz.underlying0
  a0 := Tryz.isAgg0
  z0 := Tryz.sizeOf0
  v0 := Tryz.zeroValue0
  t3 := Tryz.underlying3
  a3 := Tryz.isAgg3
  z3 := Tryz.sizeOf3
  v3 := Tryz.zeroValue3
  t4 := Tryz.underlying4
  a4 := Tryz.isAgg4
  z4 := Tryz.sizeOf4
  v4 := Tryz.zeroValue4
  t5 := Tryz.underlying5
  a5 := Tryz.isAgg5
  z5 := Tryz.sizeOf5
  v5 := Tryz.zeroValue5
  t9 := Tryz.underlying9
  a9 := Tryz.isAgg9
  z9 := Tryz.sizeOf9
  v9 := Tryz.zeroValue9
  t22 := Tryz.underlying42
  a22 := Tryz.isAgg42
  z22 := Tryz.sizeOf42
  v22 := Tryz.zeroValue42
  t25 := Tryz.underlying132
  a25 := Tryz.isAgg132
  z25 := Tryz.sizeOf132
  v25 := Tryz.zeroValue132
  t39 := Tryz.underlying85
  a39 := Tryz.isAgg85
  z39 := Tryz.sizeOf85
  v39 := Tryz.zeroValue85
  t45 := Tryz.underlying180
  a45 := Tryz.isAgg180
  z45 := Tryz.sizeOf180
  v45 := Tryz.zeroValue180
  t46 := Tryz.underlying181
  a46 := Tryz.isAgg181
  z46 := Tryz.sizeOf181
  v46 := Tryz.zeroValue181
  t50 := Tryz.underlying185
  a50 := Tryz.isAgg185
  z50 := Tryz.sizeOf185
  v50 := Tryz.zeroValue185
  t53 := Tryz.underlying156
  a53 := Tryz.isAgg156
  z53 := Tryz.sizeOf156
  v53 := Tryz.zeroValue156
  t55 := Tryz.underlying46
  a55 := Tryz.isAgg46
  z55 := Tryz.sizeOf46
  v55 := Tryz.zeroValue46
  t66 := Tryz.underlying196
  a66 := Tryz.isAgg196
  z66 := Tryz.sizeOf196
  v66 := Tryz.zeroValue196
  t70 := Tryz.underlying200
  a70 := Tryz.isAgg200
  z70 := Tryz.sizeOf200
  v70 := Tryz.zeroValue200
  t76 := Tryz.underlying206
  a76 := Tryz.isAgg206
  z76 := Tryz.sizeOf206
  v76 := Tryz.zeroValue206
  t77 := Tryz.underlying207
  a77 := Tryz.isAgg207
  z77 := Tryz.sizeOf207
  v77 := Tryz.zeroValue207 }
theorem isAgg47 (w : World) : (isAgg 50).run Tryz.prog w = .ok true w := by kernel_rfl
theorem sizeOf47 (w : World) : (Go.sizeOf 50).run Tryz.prog w = .ok 4 w := by kernel_rfl
theorem befE_irrefl (a : En) : beforeE a a = false := by
  cases q : beforeE a a with
  | false => rfl
  | true => exact absurd q (bef_self a)
theorem befE_ntrans (a b c : En) (h1 : beforeE a b = false) (h2 : beforeE b c = false) : beforeE a c = false := by
  cases q : beforeE a c with
  | false => rfl
  | true => exact absurd q (le_trans (a := c) (b := b) (c := a) (by rw [h2]; decide) (by rw [h1]; decide))
theorem ltOf_ord (x y : En) : ltOf ordC x y = beforeE x y := ordC_lt x y
theorem swoM : SWO (ltOf ordC) where
  irrefl x := by rw [ltOf_ord]; exact befE_irrefl x
  trans x y z h1 h2 := by rw [ltOf_ord] at *; exact bef_trans h1 h2
  ntrans x y z h1 h2 := by rw [ltOf_ord] at *; exact befE_ntrans x y z h1 h2
set_option maxHeartbeats 4000000 in
theorem cmpLays35 (blk off size : Nat) (w : World) : CmpLays Tryz.prog 61 #[] enRow 4 ordC blk off size w :=
  fun m os dk _ x y => (order_any x y _).mono fun e w' ⟨he, hw⟩ => by
    subst he
    by_cases h : beforeE x y = true
    · refine ⟨rfl, 0, #[enObj x] ++ #[enObj y] ++ #[enObj x] ++ #[enObj y], ?_⟩
      rw [hw]
      unfold ordW
      rw [if_pos h, alloc_eq_grow, alloc_eq_grow, alloc_eq_grow, alloc_eq_grow, grow_grow, grow_grow, grow_grow]
      rfl
    · refine ⟨rfl, 0, #[enObj x] ++ #[enObj y] ++ #[enObj x] ++ #[enObj y] ++ #[enObj y] ++ #[enObj x], ?_⟩
      rw [hw]
      unfold ordW
      rw [if_neg h, alloc_eq_grow, alloc_eq_grow, alloc_eq_grow, alloc_eq_grow, alloc_eq_grow, alloc_eq_grow, grow_grow, grow_grow, grow_grow, grow_grow, grow_grow]
      rfl
theorem enRow_len (x : En) : (enRow x).length = 4 := rfl
theorem flatK_list (d : Array En) : (flatK enRow 4 d).toList = (d.toList.map enRow).flatten := by
  have hx : ∀ cs ∈ d.toList.map enRow, cs.length = 4 := by
    intro cs h
    obtain ⟨m, _, rfl⟩ := List.mem_map.1 h
    rfl
  refine List.ext_getElem? (fun t => ?_)
  by_cases ht : t < d.size * 4
  · have h1 : t / 4 < d.size := by omega
    have h2 : (d.toList.map enRow)[t / 4]? = some (enRow d[t / 4]) := by simp [h1]
    have h3 : (enRow d[t / 4])[t % 4]? = some (enRow d[t / 4])[t % 4]! := by
      have : t % 4 < (enRow d[t / 4]).length := by rw [enRow_len]; omega
      simp [this]
    have := flat_at (d.toList.map enRow) hx (t / 4) _ h2 (t % 4) _ h3
    rw [show t / 4 * 4 + t % 4 = t by omega] at this
    rw [this]
    simp [flatK, ht, h1]
  · have h1 : (flatK enRow 4 d).toList.length ≤ t := by simp; omega
    have h2 : (d.toList.map enRow).flatten.length ≤ t := by rw [flat_rows _ hx]; simp; omega
    rw [List.getElem?_eq_none h1, List.getElem?_eq_none h2]
theorem holdsK_of {w : World} {g : Nat} {cur : Array Value} {e : TypeId} {l : List En} (hb : w.heap[g]? = some (.cells cur e (0, 0))) (ht : cur.toList.take (l.length * 4) = (l.map enRow).flatten) : HoldsK enRow 4 w g 0 l.toArray := by
  intro j hj
  have hj' : j < l.length * 4 := by simpa using hj
  refine ⟨?_, by simp [World.frozen?, hb]⟩
  have h1 : (cur.toList.take (l.length * 4))[j]? = (l.map enRow).flatten[j]? := by rw [ht]
  rw [List.getElem?_take_of_lt hj'] at h1
  have h2 := flatK_list l.toArray
  rw [List.toList_toArray] at h2
  rw [← h2] at h1
  simp only [World.cell?, hb, Nat.zero_add]
  simp only [Option.isSome_none, Bool.false_eq_true, if_false]
  rw [← Array.getElem?_toList, h1, Array.getElem?_toList]
  rw [Array.getElem?_eq_getElem (by simpa using hj')]
  rw [getElem!_pos _ j hj]
  rfl
theorem heapK {w : World} {g n : Nat} {os : Array Obj} {cur : Array Value} {e : TypeId} {fr : Nat × Nat} (d : Array En) (hb : w.heap[g]? = some (.cells cur e fr)) :
    (sortWorldK enRow 4 w g 0 n d os).heap[g]? = some (.cells (putCells id 0 (flatK enRow 4 d) cur) e fr) := by
  have hg : g < w.heap.size := (Array.getElem?_eq_some_iff.1 hb).1
  unfold sortWorldK putRowK
  rw [heap_grow_old _ _ (by simpa using hg)]
  simp [putRow, mapBlock, Sort.ahead, Array.getElem?_modify, hb, onCells]
theorem grownByK {w : World} {g n : Nat} {os : Array Obj} (d : Array En) : w.grownBy (sortWorldK enRow 4 w g 0 n d os) (some g) := by
  unfold sortWorldK putRowK
  refine ⟨rfl, rfl, rfl, by simp, fun k hk hne => ?_⟩
  rw [heap_grow_old _ _ (by simpa using hk)]
  have : g ≠ k := fun e => hne (by rw [e])
  simp [putRow, mapBlock, Sort.ahead, Array.getElem?_modify, this]
theorem take_putK (cur F : Array Value) (h : F.size ≤ cur.size) : (putCells id 0 F cur).toList.take F.size = F.toList := by
  apply List.ext_getElem?
  intro j
  by_cases hj : j < F.size
  · rw [List.getElem?_take_of_lt hj, Array.getElem?_toList]
    simp [putCells, hj, show j < cur.size by omega]
  · rw [List.getElem?_take_eq_none (by omega), List.getElem?_eq_none (by simp; omega)]
def SrtE (l : List En) : Prop := l.Pairwise (fun a b => beforeE b a = false)
theorem srtE_of {d : Array En} (h : SortedIn (ltOf ordC) 0 d.size d) : SrtE d.toList := by
  unfold SrtE
  rw [List.pairwise_iff_getElem]
  intro i j hi hj hij
  have := h i j (Nat.zero_le _) hij (by simpa using hj)
  rw [ltOf_ord, getElem!_pos _ j (by simpa using hj), getElem!_pos _ i (by simpa using hi)] at this
  simpa using this
set_option maxHeartbeats 1000000 in
theorem sort_any (l : List En) (a : Option Addr) (n c base : Nat) (w : World) (h : OwnR w base 50 4 (.slice a n c) (l.map enRow)) (hbase : base ≤ w.heap.size) (hl62 : l.length < 4611686018427387904) :
    Calls Tryz.prog 60 #[.slice a n c, .func (.func 61) #[] #[]] w fun e w' => e = .returned (.tuple #[]) ∧ Hid (∃ l', l'.Perm l ∧ SrtE l' ∧ OwnR w' base 50 4 (.slice a n c) (l'.map enRow)) ∧ Hid (Below base w w') := by
  have eg : ∀ args w, (callFunc 61 args).run Tryz.prog w = .ok (.enter 61 args) w := enters_of Tryz.func61 (by kernel_rfl) rfl
  obtain ⟨h0, h1, h2⟩ := h
  rcases h2 with ⟨hn, hz⟩ | ⟨g, cap, cur, hs, hg, hb, hc1, hc2, hc3, ht⟩
  · rw [hn]
    have hl : l = [] := by
      rw [List.length_map] at hz
      exact List.length_eq_zero_iff.1 hz
    subst hl
    have hcon := AnyF.slices_SortFunc_none Tryz.sortMe none 0 (.func (.func 61) #[] #[]) w
    change Calls Tryz.prog 60 _ _ _ at hcon
    refine hcon.mono ?_
    rintro e w' ⟨rfl, rfl⟩
    exact ⟨rfl, ⟨[], .refl _, List.Pairwise.nil, OwnR.nil _ _ _ _⟩, Below.refl _ _⟩
  · simp only [Value.slice.injEq, List.length_map] at hs hc1 ht
    obtain ⟨rfl, rfl, rfl⟩ := hs
    have hblk := (Array.getElem?_eq_some_iff.1 hb).1
    have hcon := AnyQ.slices_SortFunc Tryz.sortMe 4 isAgg47 sizeOf47 enRow enRow_len enRow_oneQ ordC swoM 61 #[] g 0 c l.toArray w eg (cmpLays35 g 0 _ w) (holdsK_of hb ht) hblk (by simpa using hl62)
    change Calls Tryz.prog 60 _ _ _ at hcon
    simp only [List.size_toArray] at hcon
    refine hcon.mono ?_
    rintro e w' ⟨rfl, d', n', os, ⟨hp1, hp2, hp3⟩, hsd, rfl⟩
    simp only [List.size_toArray] at hp1
    have hpl : d'.toList.Perm l := by
      have e1 : (d'.extract 0 l.length).toList = d'.toList := by rw [← hp1]; simp
      have e2 : (l.toArray.extract 0 l.length).toList = l := by simp
      rw [e1, e2] at hp3
      exact hp3
    have hlen : d'.toList.length = l.length := hpl.length_eq
    refine ⟨rfl, ⟨d'.toList, hpl, srtE_of (by rw [hp1]; exact hsd), ?_, ?_⟩, ?_⟩
    · intro cs hcs
      obtain ⟨m, _, rfl⟩ := List.mem_map.1 hcs
      rfl
    · have hsz : (flatK enRow 4 d').size = l.length * 4 := by rw [size_flatK, hp1]
      refine ⟨?_, .inr ⟨g, c, _, ?_, hg, heapK d' hb, ?_, hc2, ?_, ?_⟩⟩
      · rw [← flatK_list]; simp [hp1]
      · simp [hp1]
      · simp [hp1]; exact hc1
      · simp [putCells, hc3]
      · rw [List.length_map, hlen, ← hsz, take_putK cur _ (by rw [hsz, hc3]; omega), flatK_list]
    · exact (Below.refl _ _).grown (grownByK d') hbase (fun k hk => by injection hk with hk; omega)
end Go.Proofs.YthiegmhplnbdlaaGreat
