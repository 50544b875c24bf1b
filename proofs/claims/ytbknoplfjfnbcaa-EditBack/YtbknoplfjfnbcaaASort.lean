/- slices.SortFunc of tables by order: a sorted arrangement of what the slice held; nothing else turns. -/
import Derived.Shelf.SlSortCmp.WholeK
import Derived.Shelf.SlSortCmp.NoneTotal
import Derived.Test.YtbknoplfjfnbcaaAWith
namespace Go.Proofs.Ytbknoplfjfnbcaa
open Go.Shelf Go.RowKit Go.Lib Go.Sort
set_option linter.unusedVariables false
set_option linter.unusedSimpArgs false

def Try.sortMe_ren : Go.Shelf.Ren := ⟨fun | 6 => 30 | 15 => 50 | 14 => 49 | 28 => 69 | 29 => 70 | 20 => 61 | 21 => 62 | 22 => 63 | 23 => 64 | 24 => 65 | 25 => 66 | 26 => 67 | 27 => 68 | 46 => 78 | 47 => 79 | 48 => 80 | 49 => 81 | 50 => 82 | 57 => 85 | n => n, fun | 22 => 28 | 24 => 65 | 25 => 72 | 3 => 3 | 39 => 99 | 0 => 0 | 53 => 120 | 55 => 85 | 4 => 4 | 46 => 113 | 45 => 112 | 50 => 117 | 5 => 5 | 9 => 9 | 66 => 127 | 70 => 131 | 76 => 135 | 77 => 136 | n => n, fun | n => n⟩
theorem Try.sortMe : Go.Proofs.SlLaysF0.n6 Try.prog Try.sortMe_ren := {
  mixed := by kernel_rfl
  f6 := ⟨Try.f30.name, by decide, Try.func30.trans (congrArg some (by kernel_rfl))⟩
  f14 := ⟨Try.f49.name, by decide, Try.func49.trans (congrArg some (by kernel_rfl))⟩
  f15 := Try.func50.trans (congrArg some (by kernel_rfl))
  f20 := ⟨Try.f61.name, by decide, Try.func61.trans (congrArg some (by kernel_rfl))⟩
  f21 := ⟨Try.f62.name, by decide, Try.func62.trans (congrArg some (by kernel_rfl))⟩
  f22 := ⟨Try.f63.name, by decide, Try.func63.trans (congrArg some (by kernel_rfl))⟩
  f23 := ⟨Try.f64.name, by decide, Try.func64.trans (congrArg some (by kernel_rfl))⟩
  f24 := ⟨Try.f65.name, by decide, Try.func65.trans (congrArg some (by kernel_rfl))⟩
  f25 := ⟨Try.f66.name, by decide, Try.func66.trans (congrArg some (by kernel_rfl))⟩
  f26 := ⟨Try.f67.name, by decide, Try.func67.trans (congrArg some (by kernel_rfl))⟩
  f27 := ⟨Try.f68.name, by decide, Try.func68.trans (congrArg some (by kernel_rfl))⟩
  f28 := Try.func69.trans (congrArg some (by kernel_rfl))
  f29 := Try.func70.trans (congrArg some (by kernel_rfl))
  f46 := ⟨Try.f78.name, by decide, Try.func78.trans (congrArg some (by kernel_rfl))⟩
  f47 := Try.func79.trans (congrArg some (by kernel_rfl))
  f48 := Try.func80.trans (congrArg some (by kernel_rfl))
  f49 := ⟨Try.f81.name, by decide, Try.func81.trans (congrArg some (by kernel_rfl))⟩
  f50 := ⟨Try.f82.name, by decide, Try.func82.trans (congrArg some (by kernel_rfl))⟩
  f57 := ⟨Try.f85.name, by decide, Try.func85.trans (congrArg some (by kernel_rfl))⟩
  t0 := Try.underlying0
  a0 := Try.isAgg0
  z0 := Try.sizeOf0
  v0 := Try.zeroValue0
  t3 := Try.underlying3
  a3 := Try.isAgg3
  z3 := Try.sizeOf3
  v3 := Try.zeroValue3
  t4 := Try.underlying4
  a4 := Try.isAgg4
  z4 := Try.sizeOf4
  v4 := Try.zeroValue4
  t5 := Try.underlying5
  a5 := Try.isAgg5
  z5 := Try.sizeOf5
  v5 := Try.zeroValue5
  t9 := Try.underlying9
  a9 := Try.isAgg9
  z9 := Try.sizeOf9
  v9 := Try.zeroValue9
  t22 := Try.underlying28
  a22 := Try.isAgg28
  z22 := Try.sizeOf28
  v22 := Try.zeroValue28
  t25 := Try.underlying72
  a25 := Try.isAgg72
  z25 := Try.sizeOf72
  v25 := Try.zeroValue72
  t39 := Try.underlying99
  a39 := Try.isAgg99
  z39 := Try.sizeOf99
  v39 := Try.zeroValue99
  t45 := Try.underlying112
  a45 := Try.isAgg112
  z45 := Try.sizeOf112
  v45 := Try.zeroValue112
  t46 := Try.underlying113
  a46 := Try.isAgg113
  z46 := Try.sizeOf113
  v46 := Try.zeroValue113
  t50 := Try.underlying117
  a50 := Try.isAgg117
  z50 := Try.sizeOf117
  v50 := Try.zeroValue117
  t53 := Try.underlying120
  a53 := Try.isAgg120
  z53 := Try.sizeOf120
  v53 := Try.zeroValue120
  t55 := Try.underlying85
  a55 := Try.isAgg85
  z55 := Try.sizeOf85
  v55 := Try.zeroValue85
  t66 := Try.underlying127
  a66 := Try.isAgg127
  z66 := Try.sizeOf127
  v66 := Try.zeroValue127
  t70 := Try.underlying131
  a70 := Try.isAgg131
  z70 := Try.sizeOf131
  v70 := Try.zeroValue131
  t76 := Try.underlying135
  a76 := Try.isAgg135
  z76 := Try.sizeOf135
  v76 := Try.zeroValue135
  t77 := Try.underlying136
  a77 := Try.isAgg136
  z77 := Try.sizeOf136
  v77 := Try.zeroValue136 }

theorem isAgg65 (w : World) : (isAgg 65).run Try.prog w = .ok true w := by kernel_rfl
theorem sizeOf65 (w : World) : (Go.sizeOf 65).run Try.prog w = .ok 5 w := by kernel_rfl

theorem befM_irrefl (a : Me) : befM a a = false := by
  unfold befM
  rw [if_pos rfl]
  by_cases z : a.lvl = 0
  · rw [if_pos z]; simp
  · rw [if_neg z]; exact bl_selfM _
theorem bl_ntrans {a b c : List UInt8} (h1 : Op.bytesLess a b = false) (h2 : Op.bytesLess b c = false) : Op.bytesLess a c = false := by
  cases q : Op.bytesLess a c
  · rfl
  · exfalso
    cases r : Op.bytesLess b a
    · have e := bl_totalM a b h1 r
      subst e
      rw [h2] at q; cases q
    · have := bl_transM b a c r q
      rw [h2] at this; cases this
theorem befM_ntrans (a b c : Me) (h1 : befM a b = false) (h2 : befM b c = false) : befM a c = false := by
  unfold befM at *
  by_cases e1 : a.lvl = b.lvl
  · rw [if_pos e1] at h1
    by_cases e2 : b.lvl = c.lvl
    · rw [if_pos e2] at h2
      rw [if_pos (e1.trans e2)]
      by_cases z : a.lvl = 0
      · rw [if_pos z] at h1 ⊢
        rw [if_pos (e1 ▸ z)] at h2
        simp only [decide_eq_false_iff_not] at *
        omega
      · rw [if_neg z] at h1 ⊢
        rw [if_neg (e1 ▸ z)] at h2
        exact bl_ntrans h1 h2
    · rw [if_neg e2] at h2
      rw [if_neg (by rw [e1]; exact e2)]
      simp only [decide_eq_false_iff_not] at *
      omega
  · rw [if_neg e1] at h1
    simp only [decide_eq_false_iff_not] at h1
    by_cases e2 : b.lvl = c.lvl
    · rw [if_neg (by omega)]
      simp only [decide_eq_false_iff_not]
      omega
    · rw [if_neg e2] at h2
      simp only [decide_eq_false_iff_not] at h2
      rw [if_neg (by omega)]
      simp only [decide_eq_false_iff_not]
      omega
theorem ltOf_ord (x y : Me) : ltOf ordM x y = befM x y := ordM_lt x y
theorem swoM : SWO (ltOf ordM) where
  irrefl x := by rw [ltOf_ord]; exact befM_irrefl x
  trans x y z h1 h2 := by rw [ltOf_ord] at *; exact befM_trans h1 h2
  ntrans x y z h1 h2 := by rw [ltOf_ord] at *; exact befM_ntrans x y z h1 h2

theorem cmpLays31 (blk off size : Nat) (w : World) : CmpLays Try.prog 31 #[] meRow 5 ordM blk off size w :=
  fun m os dk _ x y => (order_any x y _).mono fun e w' ⟨he, hw⟩ => ⟨he, 0, #[meBox x] ++ #[meBox y], by rw [hw, alloc_eq_grow, alloc_eq_grow, grow_grow]; rfl⟩

theorem flatK_list (d : Array Me) : (flatK meRow 5 d).toList = (d.toList.map meRow).flatten := by
  have hx : ∀ cs ∈ d.toList.map meRow, cs.length = 5 := by
    intro cs h
    obtain ⟨m, _, rfl⟩ := List.mem_map.1 h
    rfl
  refine List.ext_getElem? (fun t => ?_)
  by_cases ht : t < d.size * 5
  · have h1 : t / 5 < d.size := by omega
    have h2 : (d.toList.map meRow)[t / 5]? = some (meRow d[t / 5]) := by simp [h1]
    have h3 : (meRow d[t / 5])[t % 5]? = some (meRow d[t / 5])[t % 5]! := by
      have : t % 5 < (meRow d[t / 5]).length := by rw [meRow_len]; omega
      simp [this]
    have := flat_at (d.toList.map meRow) hx (t / 5) _ h2 (t % 5) _ h3
    rw [show t / 5 * 5 + t % 5 = t by omega] at this
    rw [this]
    simp [flatK, ht, h1]
  · have h1 : (flatK meRow 5 d).toList.length ≤ t := by simp; omega
    have h2 : (d.toList.map meRow).flatten.length ≤ t := by rw [flat_rows _ hx]; simp; omega
    rw [List.getElem?_eq_none h1, List.getElem?_eq_none h2]

theorem holdsK_of {w : World} {g : Nat} {cur : Array Value} {e : TypeId} {l : List Me} (hb : w.heap[g]? = some (.cells cur e (0, 0))) (ht : cur.toList.take (l.length * 5) = (l.map meRow).flatten) : HoldsK meRow 5 w g 0 l.toArray := by
  intro j hj
  have hj' : j < l.length * 5 := by simpa using hj
  refine ⟨?_, by simp [World.frozen?, hb]⟩
  have h1 : (cur.toList.take (l.length * 5))[j]? = (l.map meRow).flatten[j]? := by rw [ht]
  rw [List.getElem?_take_of_lt hj'] at h1
  have h2 := flatK_list l.toArray
  rw [List.toList_toArray] at h2
  rw [← h2] at h1
  simp only [World.cell?, hb, Nat.zero_add]
  simp only [Option.isSome_none, Bool.false_eq_true, if_false]
  rw [← Array.getElem?_toList, h1, Array.getElem?_toList]
  rw [Array.getElem?_eq_getElem (by simpa using hj')]
  rw [getElem!_pos _ j hj]
  rfl
theorem heapK {w : World} {g n : Nat} {os : Array Obj} {cur : Array Value} {e : TypeId} {fr : Nat × Nat} (d : Array Me) (hb : w.heap[g]? = some (.cells cur e fr)) :
    (sortWorldK meRow 5 w g 0 n d os).heap[g]? = some (.cells (putCells id 0 (flatK meRow 5 d) cur) e fr) := by
  have hg : g < w.heap.size := (Array.getElem?_eq_some_iff.1 hb).1
  unfold sortWorldK putRowK
  rw [heap_grow_old _ _ (by simpa using hg)]
  simp [putRow, mapBlock, Sort.ahead, Array.getElem?_modify, hb, onCells]
theorem grownByK {w : World} {g n : Nat} {os : Array Obj} (d : Array Me) : w.grownBy (sortWorldK meRow 5 w g 0 n d os) (some g) := by
  unfold sortWorldK putRowK
  refine ⟨rfl, rfl, rfl, by simp, fun k hk hne => ?_⟩
  rw [heap_grow_old _ _ (by simpa using hk)]
  have : g ≠ k := fun e => hne (by rw [e])
  simp [putRow, mapBlock, Sort.ahead, Array.getElem?_modify, this]
theorem take_putK (cur F : Array Value) (h : F.size ≤ cur.size) : (putCells id 0 F cur).toList.take F.size = F.toList := by
  apply List.ext_getElem?
  intro j
  by_cases hj : j < F.size
  · rw [List.getElem?_take_of_lt hj, Array.getElem?_toList]
    simp [putCells, hj, show j < cur.size by omega]
  · rw [List.getElem?_take_eq_none (by omega), List.getElem?_eq_none (by simp; omega)]

/-- Sorted: none stands behind one that it ought to stand ahead of. -/
def SrtM (l : List Me) : Prop := l.Pairwise (fun a b => befM b a = false)
theorem srtM_of {d : Array Me} (h : SortedIn (ltOf ordM) 0 d.size d) : SrtM d.toList := by
  unfold SrtM
  rw [List.pairwise_iff_getElem]
  intro i j hi hj hij
  have := h i j (Nat.zero_le _) hij (by simpa using hj)
  rw [ltOf_ord, getElem!_pos _ j (by simpa using hj), getElem!_pos _ i (by simpa using hi)] at this
  simpa using this

set_option maxHeartbeats 1000000 in
theorem sort_any (l : List Me) (a : Option Addr) (n c base : Nat) (w : World) (h : OwnR w base 65 5 (.slice a n c) (l.map meRow)) (hbase : base ≤ w.heap.size) (hl62 : l.length < 4611686018427387904) :
    Calls Try.prog 30 #[.slice a n c, .func (.func 31) #[] #[]] w fun e w' => e = .returned (.tuple #[]) ∧ Hid (∃ l', l'.Perm l ∧ SrtM l' ∧ OwnR w' base 65 5 (.slice a n c) (l'.map meRow)) ∧ Hid (Below base w w') := by
  have eg : ∀ args w, (callFunc 31 args).run Try.prog w = .ok (.enter 31 args) w := enters_of Try.func31 (by kernel_rfl) rfl
  obtain ⟨h0, h1, h2⟩ := h
  rcases h2 with ⟨hn, hz⟩ | ⟨g, cap, cur, hs, hg, hb, hc1, hc2, hc3, ht⟩
  · rw [hn]
    have hl : l = [] := by
      rw [List.length_map] at hz
      exact List.length_eq_zero_iff.1 hz
    subst hl
    have hcon := AnyF.slices_SortFunc_none Try.sortMe none 0 (.func (.func 31) #[] #[]) w
    change Calls Try.prog 30 _ _ _ at hcon
    refine hcon.mono ?_
    rintro e w' ⟨rfl, rfl⟩
    exact ⟨rfl, ⟨[], .refl _, List.Pairwise.nil, OwnR.nil _ _ _ _⟩, Below.refl _ _⟩
  · simp only [Value.slice.injEq, List.length_map] at hs hc1 ht
    obtain ⟨rfl, rfl, rfl⟩ := hs
    have hblk := (Array.getElem?_eq_some_iff.1 hb).1
    have hcon := AnyQ.slices_SortFunc Try.sortMe 5 isAgg65 sizeOf65 meRow meRow_len meRow_one ordM swoM 31 #[] g 0 c l.toArray w eg (cmpLays31 g 0 _ w) (holdsK_of hb ht) hblk (by simpa using hl62)
    change Calls Try.prog 30 _ _ _ at hcon
    simp only [List.size_toArray] at hcon
    refine hcon.mono ?_
    rintro e w' ⟨rfl, d', n', os, ⟨hp1, hp2, hp3⟩, hsd, rfl⟩
    simp only [List.size_toArray] at hp1
    have hpl : d'.toList.Perm l := by
      have e1 : (d'.extract 0 l.length).toList = d'.toList := by rw [← hp1]; simp
      have e2 : (l.toArray.extract 0 l.length).toList = l := by simp
      rw [e1, e2] at hp3
      exact hp3
    have hlen : d'.toList.length = l.length := hpl.length_eq
    refine ⟨rfl, ⟨d'.toList, hpl, srtM_of (by rw [hp1]; exact hsd), ?_, ?_⟩, ?_⟩
    · intro cs hcs
      obtain ⟨m, _, rfl⟩ := List.mem_map.1 hcs
      rfl
    · have hsz : (flatK meRow 5 d').size = l.length * 5 := by rw [size_flatK, hp1]
      refine ⟨?_, .inr ⟨g, c, _, ?_, hg, heapK d' hb, ?_, hc2, ?_, ?_⟩⟩
      · rw [← flatK_list]; simp [hp1]
      · simp [hp1]
      · simp [hp1]; exact hc1
      · simp [putCells, hc3]
      · rw [List.length_map, hlen, ← hsz, take_putK cur _ (by rw [hsz, hc3]; omega), flatK_list]
    · exact (Below.refl _ _).grown (grownByK d') hbase (fun k hk => by injection hk with hk; omega)
end Go.Proofs.Ytbknoplfjfnbcaa
