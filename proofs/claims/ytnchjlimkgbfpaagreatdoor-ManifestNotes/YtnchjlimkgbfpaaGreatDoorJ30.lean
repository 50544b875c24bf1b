/- The texts ASort, LInts, AWo, in this order. -/
import Derived.Shelf.SlSortCmp.WholeK
import Derived.Shelf.SlSortCmp.NoneTotal
import Derived.Test.YtnchjlimkgbfpaaGreatDoorJ29
import Derived.Test.YtnchjlimkgbfpaaGreatDoorJ26

namespace Go.Proofs.YtnchjlimkgbfpaaGreatDoor
open Go.Shelf Go.RowKit Go.Lib Go.Sort
set_option linter.unusedVariables false
set_option maxRecDepth 20000
set_option linter.unusedSimpArgs false
def Tryz.sortMe_ren : Go.Shelf.Ren := ⟨fun | 6 => 176 | 14 => 201 | 15 => 202 | 20 => 217 | 21 => 218 | 22 => 219 | 23 => 220 | 24 => 221 | 25 => 222 | 26 => 223 | 27 => 224 | 28 => 225 | 29 => 158 | 46 => 230 | 47 => 231 | 48 => 232 | 49 => 233 | 50 => 234 | 57 => 236 | n => n, fun | 22 => 37 | 24 => 148 | 25 => 238 | 3 => 3 | 39 => 213 | 0 => 0 | 53 => 214 | 55 => 156 | 4 => 4 | 46 => 301 | 45 => 300 | 50 => 121 | 5 => 5 | 9 => 9 | 66 => 308 | 70 => 312 | 76 => 317 | 77 => 318 | n => n, fun | n => n⟩
theorem Tryz.sortMe : Go.Proofs.SlLaysF0.n6 Tryz.prog Tryz.sortMe_ren := {
  mixed := by kernel_rfl
  f6 := ⟨Tryz.f176.name, by decide, Tryz.func176.trans (congrArg some (by kernel_rfl))⟩
  f14 := ⟨Tryz.f201.name, by decide, Tryz.func201.trans (congrArg some (by kernel_rfl))⟩
  f15 := Tryz.func202.trans (congrArg some (by kernel_rfl))
  f20 := ⟨Tryz.f217.name, by decide, Tryz.func217.trans (congrArg some (by kernel_rfl))⟩
  f21 := ⟨Tryz.f218.name, by decide, Tryz.func218.trans (congrArg some (by kernel_rfl))⟩
  f22 := ⟨Tryz.f219.name, by decide, Tryz.func219.trans (congrArg some (by kernel_rfl))⟩
  f23 := ⟨Tryz.f220.name, by decide, Tryz.func220.trans (congrArg some (by kernel_rfl))⟩
  f24 := ⟨Tryz.f221.name, by decide, Tryz.func221.trans (congrArg some (by kernel_rfl))⟩
  f25 := ⟨Tryz.f222.name, by decide, Tryz.func222.trans (congrArg some (by kernel_rfl))⟩
  f26 := ⟨Tryz.f223.name, by decide, Tryz.func223.trans (congrArg some (by kernel_rfl))⟩
  f27 := ⟨Tryz.f224.name, by decide, Tryz.func224.trans (congrArg some (by kernel_rfl))⟩
  f28 := Tryz.func225.trans (congrArg some (by kernel_rfl))
  f29 := Tryz.func158.trans (congrArg some (by kernel_rfl))
  f46 := ⟨Tryz.f230.name, by decide, Tryz.func230.trans (congrArg some (by kernel_rfl))⟩
  f47 := Tryz.func231.trans (congrArg some (by kernel_rfl))
  f48 := Tryz.func232.trans (congrArg some (by kernel_rfl))
  f49 := ⟨Tryz.f233.name, by decide, Tryz.func233.trans (congrArg some (by kernel_rfl))⟩
  f50 := ⟨Tryz.f234.name, by decide, Tryz.func234.trans (congrArg some (by kernel_rfl))⟩
  f57 := ⟨Tryz.f236.name, by decide, Tryz.func236.trans (congrArg some (by kernel_rfl))⟩
  t0 := Tryz.underlying0
  a0 := Tryz.isAgg0
  z0 := Tryz.sizeOf0
  v0 := Tryz.zeroValue0
  t3 := Tryz.underlying3
  a3 := Tryz.isAgg3
  z3 := Tryz.sizeOf3
  v3 := Tryz.zeroValue3
  t4 := Tryz.underlying4
  a4 := Tryz.isAgg4
  z4 := Tryz.sizeOf4
  v4 := Tryz.zeroValue4
  t5 := Tryz.underlying5
  a5 := Tryz.isAgg5
  z5 := Tryz.sizeOf5
  v5 := Tryz.zeroValue5
  t9 := Tryz.underlying9
  a9 := Tryz.isAgg9
  z9 := Tryz.sizeOf9
  v9 := Tryz.zeroValue9
  t22 := Tryz.underlying37
  a22 := Tryz.isAgg37
  z22 := Tryz.sizeOf37
  v22 := Tryz.zeroValue37
  t25 := Tryz.underlying238
  a25 := Tryz.isAgg238
  z25 := Tryz.sizeOf238
  v25 := Tryz.zeroValue238
  t39 := Tryz.underlying213
  a39 := Tryz.isAgg213
  z39 := Tryz.sizeOf213
  v39 := Tryz.zeroValue213
  t45 := Tryz.underlying300
  a45 := Tryz.isAgg300
  z45 := Tryz.sizeOf300
  v45 := Tryz.zeroValue300
  t46 := Tryz.underlying301
  a46 := Tryz.isAgg301
  z46 := Tryz.sizeOf301
  v46 := Tryz.zeroValue301
  t50 := Tryz.underlying121
  a50 := Tryz.isAgg121
  z50 := Tryz.sizeOf121
  v50 := Tryz.zeroValue121
  t53 := Tryz.underlying214
  a53 := Tryz.isAgg214
  z53 := Tryz.sizeOf214
  v53 := Tryz.zeroValue214
  t55 := Tryz.underlying156
  a55 := Tryz.isAgg156
  z55 := Tryz.sizeOf156
  v55 := Tryz.zeroValue156
  t66 := Tryz.underlying308
  a66 := Tryz.isAgg308
  z66 := Tryz.sizeOf308
  v66 := Tryz.zeroValue308
  t70 := Tryz.underlying312
  a70 := Tryz.isAgg312
  z70 := Tryz.sizeOf312
  v70 := Tryz.zeroValue312
  t76 := Tryz.underlying317
  a76 := Tryz.isAgg317
  z76 := Tryz.sizeOf317
  v76 := Tryz.zeroValue317
  t77 := Tryz.underlying318
  a77 := Tryz.isAgg318
  z77 := Tryz.sizeOf318
  v77 := Tryz.zeroValue318 }
theorem isAgg65 (w : World) : (isAgg 148).run Tryz.prog w = .ok true w := by kernel_rfl
theorem sizeOf65 (w : World) : (Go.sizeOf 148).run Tryz.prog w = .ok 5 w := by kernel_rfl
theorem befM_irrefl (a : Me) : befM a a = false := by
  unfold befM
  rw [if_pos rfl]
  by_cases z : a.lvl = 0
  · rw [if_pos z]; simp
  · rw [if_neg z]; exact bl_selfM _
theorem bl_ntrans {a b c : List UInt8} (h1 : Op.bytesLess a b = false) (h2 : Op.bytesLess b c = false) : Op.bytesLess a c = false := by
  cases q : Op.bytesLess a c
  · rfl
  · exfalso
    cases r : Op.bytesLess b a
    · have e := bl_totalM a b h1 r
      subst e
      rw [h2] at q; cases q
    · have := bl_transM b a c r q
      rw [h2] at this; cases this
theorem befM_ntrans (a b c : Me) (h1 : befM a b = false) (h2 : befM b c = false) : befM a c = false := by
  unfold befM at *
  by_cases e1 : a.lvl = b.lvl
  · rw [if_pos e1] at h1
    by_cases e2 : b.lvl = c.lvl
    · rw [if_pos e2] at h2
      rw [if_pos (e1.trans e2)]
      by_cases z : a.lvl = 0
      · rw [if_pos z] at h1 ⊢
        rw [if_pos (e1 ▸ z)] at h2
        simp only [decide_eq_false_iff_not] at *
        omega
      · rw [if_neg z] at h1 ⊢
        rw [if_neg (e1 ▸ z)] at h2
        exact bl_ntrans h1 h2
    · rw [if_neg e2] at h2
      rw [if_neg (by rw [e1]; exact e2)]
      simp only [decide_eq_false_iff_not] at *
      omega
  · rw [if_neg e1] at h1
    simp only [decide_eq_false_iff_not] at h1
    by_cases e2 : b.lvl = c.lvl
    · rw [if_neg (by omega)]
      simp only [decide_eq_false_iff_not]
      omega
    · rw [if_neg e2] at h2
      simp only [decide_eq_false_iff_not] at h2
      rw [if_neg (by omega)]
      simp only [decide_eq_false_iff_not]
      omega
theorem ltOf_ord (x y : Me) : ltOf ordM x y = befM x y := ordM_lt x y
theorem swoM : SWO (ltOf ordM) where
  irrefl x := by rw [ltOf_ord]; exact befM_irrefl x
  trans x y z h1 h2 := by rw [ltOf_ord] at *; exact befM_trans h1 h2
  ntrans x y z h1 h2 := by rw [ltOf_ord] at *; exact befM_ntrans x y z h1 h2
theorem cmpLays31 (blk off size : Nat) (w : World) : CmpLays Tryz.prog 153 #[] meRow 5 ordM blk off size w :=
  fun m os dk _ x y => (order_any x y _).mono fun e w' ⟨he, hw⟩ => ⟨he, 0, #[meBox x] ++ #[meBox y], by rw [hw, alloc_eq_grow, alloc_eq_grow, grow_grow]; rfl⟩
theorem flatK_list (d : Array Me) : (flatK meRow 5 d).toList = (d.toList.map meRow).flatten := by
  have hx : ∀ cs ∈ d.toList.map meRow, cs.length = 5 := by
    intro cs h
    obtain ⟨m, _, rfl⟩ := List.mem_map.1 h
    rfl
  refine List.ext_getElem? (fun t => ?_)
  by_cases ht : t < d.size * 5
  · have h1 : t / 5 < d.size := by omega
    have h2 : (d.toList.map meRow)[t / 5]? = some (meRow d[t / 5]) := by simp [h1]
    have h3 : (meRow d[t / 5])[t % 5]? = some (meRow d[t / 5])[t % 5]! := by
      have : t % 5 < (meRow d[t / 5]).length := by rw [meRow_len]; omega
      simp [this]
    have := flat_at (d.toList.map meRow) hx (t / 5) _ h2 (t % 5) _ h3
    rw [show t / 5 * 5 + t % 5 = t by omega] at this
    rw [this]
    simp [flatK, ht, h1]
  · have h1 : (flatK meRow 5 d).toList.length ≤ t := by simp; omega
    have h2 : (d.toList.map meRow).flatten.length ≤ t := by rw [flat_rows _ hx]; simp; omega
    rw [List.getElem?_eq_none h1, List.getElem?_eq_none h2]
theorem holdsK_of {w : World} {g : Nat} {cur : Array Value} {e : TypeId} {l : List Me} (hb : w.heap[g]? = some (.cells cur e (0, 0))) (ht : cur.toList.take (l.length * 5) = (l.map meRow).flatten) : HoldsK meRow 5 w g 0 l.toArray := by
  intro j hj
  have hj' : j < l.length * 5 := by simpa using hj
  refine ⟨?_, by simp [World.frozen?, hb]⟩
  have h1 : (cur.toList.take (l.length * 5))[j]? = (l.map meRow).flatten[j]? := by rw [ht]
  rw [List.getElem?_take_of_lt hj'] at h1
  have h2 := flatK_list l.toArray
  rw [List.toList_toArray] at h2
  rw [← h2] at h1
  simp only [World.cell?, hb, Nat.zero_add]
  simp only [Option.isSome_none, Bool.false_eq_true, if_false]
  rw [← Array.getElem?_toList, h1, Array.getElem?_toList]
  rw [Array.getElem?_eq_getElem (by simpa using hj')]
  rw [getElem!_pos _ j hj]
  rfl
theorem heapK {w : World} {g n : Nat} {os : Array Obj} {cur : Array Value} {e : TypeId} {fr : Nat × Nat} (d : Array Me) (hb : w.heap[g]? = some (.cells cur e fr)) :
    (sortWorldK meRow 5 w g 0 n d os).heap[g]? = some (.cells (putCells id 0 (flatK meRow 5 d) cur) e fr) := by
  have hg : g < w.heap.size := (Array.getElem?_eq_some_iff.1 hb).1
  unfold sortWorldK putRowK
  rw [heap_grow_old _ _ (by simpa using hg)]
  simp [putRow, mapBlock, Sort.ahead, Array.getElem?_modify, hb, onCells]
theorem grownByK {w : World} {g n : Nat} {os : Array Obj} (d : Array Me) : w.grownBy (sortWorldK meRow 5 w g 0 n d os) (some g) := by
  unfold sortWorldK putRowK
  refine ⟨rfl, rfl, rfl, by simp, fun k hk hne => ?_⟩
  rw [heap_grow_old _ _ (by simpa using hk)]
  have : g ≠ k := fun e => hne (by rw [e])
  simp [putRow, mapBlock, Sort.ahead, Array.getElem?_modify, this]
theorem take_putK (cur F : Array Value) (h : F.size ≤ cur.size) : (putCells id 0 F cur).toList.take F.size = F.toList := by
  apply List.ext_getElem?
  intro j
  by_cases hj : j < F.size
  · rw [List.getElem?_take_of_lt hj, Array.getElem?_toList]
    simp [putCells, hj, show j < cur.size by omega]
  · rw [List.getElem?_take_eq_none (by omega), List.getElem?_eq_none (by simp; omega)]
def SrtM (l : List Me) : Prop := l.Pairwise (fun a b => befM b a = false)
theorem srtM_of {d : Array Me} (h : SortedIn (ltOf ordM) 0 d.size d) : SrtM d.toList := by
  unfold SrtM
  rw [List.pairwise_iff_getElem]
  intro i j hi hj hij
  have := h i j (Nat.zero_le _) hij (by simpa using hj)
  rw [ltOf_ord, getElem!_pos _ j (by simpa using hj), getElem!_pos _ i (by simpa using hi)] at this
  simpa using this
set_option maxHeartbeats 1000000 in
theorem sort_any (l : List Me) (a : Option Addr) (n c base : Nat) (w : World) (h : OwnR w base 148 5 (.slice a n c) (l.map meRow)) (hbase : base ≤ w.heap.size) (hl62 : l.length < 4611686018427387904) :
    Calls Tryz.prog 176 #[.slice a n c, .func (.func 153) #[] #[]] w fun e w' => e = .returned (.tuple #[]) ∧ Hid (∃ l', l'.Perm l ∧ SrtM l' ∧ OwnR w' base 148 5 (.slice a n c) (l'.map meRow)) ∧ Hid (Below base w w') := by
  have eg : ∀ args w, (callFunc 153 args).run Tryz.prog w = .ok (.enter 153 args) w := enters_of Tryz.func153 (by kernel_rfl) rfl
  obtain ⟨h0, h1, h2⟩ := h
  rcases h2 with ⟨hn, hz⟩ | ⟨g, cap, cur, hs, hg, hb, hc1, hc2, hc3, ht⟩
  · rw [hn]
    have hl : l = [] := by
      rw [List.length_map] at hz
      exact List.length_eq_zero_iff.1 hz
    subst hl
    have hcon := AnyF.slices_SortFunc_none Tryz.sortMe none 0 (.func (.func 153) #[] #[]) w
    change Calls Tryz.prog 176 _ _ _ at hcon
    refine hcon.mono ?_
    rintro e w' ⟨rfl, rfl⟩
    exact ⟨rfl, ⟨[], .refl _, List.Pairwise.nil, OwnR.nil _ _ _ _⟩, Below.refl _ _⟩
  · simp only [Value.slice.injEq, List.length_map] at hs hc1 ht
    obtain ⟨rfl, rfl, rfl⟩ := hs
    have hblk := (Array.getElem?_eq_some_iff.1 hb).1
    have hcon := AnyQ.slices_SortFunc Tryz.sortMe 5 isAgg65 sizeOf65 meRow meRow_len meRow_one ordM swoM 153 #[] g 0 c l.toArray w eg (cmpLays31 g 0 _ w) (holdsK_of hb ht) hblk (by simpa using hl62)
    change Calls Tryz.prog 176 _ _ _ at hcon
    simp only [List.size_toArray] at hcon
    refine hcon.mono ?_
    rintro e w' ⟨rfl, d', n', os, ⟨hp1, hp2, hp3⟩, hsd, rfl⟩
    simp only [List.size_toArray] at hp1
    have hpl : d'.toList.Perm l := by
      have e1 : (d'.extract 0 l.length).toList = d'.toList := by rw [← hp1]; simp
      have e2 : (l.toArray.extract 0 l.length).toList = l := by simp
      rw [e1, e2] at hp3
      exact hp3
    have hlen : d'.toList.length = l.length := hpl.length_eq
    refine ⟨rfl, ⟨d'.toList, hpl, srtM_of (by rw [hp1]; exact hsd), ?_, ?_⟩, ?_⟩
    · intro cs hcs
      obtain ⟨m, _, rfl⟩ := List.mem_map.1 hcs
      rfl
    · have hsz : (flatK meRow 5 d').size = l.length * 5 := by rw [size_flatK, hp1]
      refine ⟨?_, .inr ⟨g, c, _, ?_, hg, heapK d' hb, ?_, hc2, ?_, ?_⟩⟩
      · rw [← flatK_list]; simp [hp1]
      · simp [hp1]
      · simp [hp1]; exact hc1
      · simp [putCells, hc3]
      · rw [List.length_map, hlen, ← hsz, take_putK cur _ (by rw [hsz, hc3]; omega), flatK_list]
    · exact (Below.refl _ _).grown (grownByK d') hbase (fun k hk => by injection hk with hk; omega)
end Go.Proofs.YtnchjlimkgbfpaaGreatDoor

namespace Go.Proofs.YtnchjlimkgbfpaaGreatDoor
open Go.RowKit
set_option linter.unusedVariables false
set_option maxRecDepth 20000
def irow (n : Int) : List Value := [.int .i64 n]
def IntsR (w : World) (v : Value) (l : List Int) : Prop := Rws 1 w v (l.map irow)
theorem IntsR.up {w w' : World} {v : Value} {l : List Int} (h : IntsR w v l) (hb : Below w.heap.size w w') : IntsR w' v l := Rws.up h hb
theorem IntsR.len {w : World} {v : Value} {l : List Int} (h : IntsR w v l) : ∃ a cap, v = .slice a l.length cap ∧ l.length ≤ cap ∧ cap ≤ maxLen := by
  obtain ⟨a, c, e, h1, h2⟩ := Rws.len h
  simp only [List.length_map] at e h1
  exact ⟨a, c, e, h1, h2⟩
theorem IntsR.at {w : World} {v : Value} {l : List Int} (h : IntsR w v l) (k : Nat) (hk : k < l.length) :
    ∃ b off cap n, v = .slice (some ⟨b, off, none⟩) l.length cap ∧ l[k]? = some n ∧ w.cell? ⟨b, off + k, none⟩ = some (.int .i64 n) := by
  obtain ⟨b, off, cap, e, _, _, hc⟩ := Rws.at h k (by simpa using hk)
  simp only [List.length_map] at e
  refine ⟨b, off, cap, l[k], e, by simp [hk], ?_⟩
  have := hc 0 (.int .i64 l[k]) (by simp [List.getD, hk, irow])
  simpa using this
theorem one_int (l : List Int) : ∀ cs ∈ l.map irow, ∀ u ∈ cs, u.oneCell' = true := by
  intro cs h u hu
  simp only [List.mem_map] at h
  obtain ⟨n, _, rfl⟩ := h
  simp only [irow, List.mem_singleton] at hu
  subst hu
  rfl
theorem Tryz.info3 : (Tryz.prog.info? 3).map (fun i => (i.zero, i.size, i.bytes)) = some (some (.int .i64 0), 1, 8) := by kernel_rfl
set_option maxRecDepth 100000 in
theorem copyInts_any (l : List Int) (v : Value) (w : World) (hv : IntsR w v l) (hl : l.length ≤ 17592186044416) :
    Calls Tryz.prog 32 #[v] w fun e w' => ∃ a c, e = .returned (.slice a l.length c) ∧ Hid (OwnR w' w.heap.size 3 1 (.slice a l.length c) (l.map irow)) ∧ Hid (Below w.heap.size w w') := by
  have HV : Hid (Rws 1 w v (l.map irow)) := hv
  have HC1 : Hid (((([] : List (List Value)).length + (l.map irow).length) + (([] : List (List Value)).length + (l.map irow).length) / 4 + 192) * 8 ≤ 281474976710656) := by
    unfold Hid; simp only [List.length_nil, List.length_map]; omega
  have HC2 : Hid (([] : List (List Value)).length + (l.map irow).length ≤ maxLen) := by
    unfold Hid maxLen; simp only [List.length_nil, List.length_map]; omega
  have H1 : Hid (∀ cs ∈ l.map irow, ∀ u ∈ cs, u.oneCell' = true) := one_int l
  have HN : Hid ((l.map irow).length = l.length) := List.length_map _
  obtain ⟨av, cv, rfl, _, _⟩ := hv.len
  clear hv
  generalize l.map irow = T at *
  go_enter Tryz.func32, Tryz.ntmps32
  go_wp2_with (at_builtin; refine wpList_append_rows _ rfl _ _ 29 3 _ 1 8 rfl Tryz.underlying29 Tryz.info3 rfl (by decide) w.heap.size (.slice none 0 0) [] rfl (OwnR.nil _ _ _ _) (.slice av l.length cv) T rfl HV.out H1.out HC1.out HC2.out (Nat.le_refl _) ?_)
  intro v1 w1 O1 G1
  have U1 : Hid (Below w.heap.size w w1) := (Below.refl _ _).grown G1 (Nat.le_refl _) (by simp [Value.ownBlock])
  have O1' : OwnR w1 w.heap.size 3 1 v1 T := O1
  obtain ⟨a1, c1, rfl, _, _⟩ := (Rws.own O1').len
  rw [HN.out] at O1' ⊢
  have O2 : Hid (OwnR w1 w.heap.size 3 1 (.slice a1 l.length c1) T) := O1'
  clear O1 G1 O1'
  go_wp2
  go_ret
  exact ⟨a1, c1, rfl, O2, U1⟩
end Go.Proofs.YtnchjlimkgbfpaaGreatDoor

namespace Go.Proofs.YtnchjlimkgbfpaaGreatDoor
open Go.RowKit
set_option linter.unusedVariables false
set_option maxRecDepth 20000
set_option linter.unusedSimpArgs false
def dropIds : List Int → List Int → Option (List Int)
  | [], s => some s
  | i :: r, s => if s.contains i then dropIds r (s.erase i) else none
def keepM (s : List Int) (m : Me) : Bool := s.contains m.id
theorem drops_eq (ts : List Me) (hn : (ts.map Me.id).Nodup) : ∀ (d s : List Int), s.Nodup → (∀ i ∈ s, i ∈ ts.map Me.id) → dropsM d (ts.filter (keepM s)) = (dropIds d s).map (fun s' => ts.filter (keepM s'))
  | [], s, _, _ => rfl
  | i :: r, s, hs, hi => by
    rw [dropsM, dropIds]
    by_cases q : i ∈ s
    · have q2 : s.contains i = true := by simpa using q
      rw [if_pos q2]
      have e : dropM i (ts.filter (keepM s)) = ts.filter (keepM (s.erase i)) := by
        unfold dropM
        rw [List.filter_filter]
        refine List.filter_congr (fun m hm => ?_)
        unfold keepM
        rw [Bool.eq_iff_iff]
        simp [hs.mem_erase_iff]
      rw [e]
      have hlt : (ts.filter (keepM (s.erase i))).length < (ts.filter (keepM s)).length := by
        rw [← e]
        unfold dropM
        obtain ⟨m, hm, hid⟩ := List.mem_map.1 (hi i q)
        have hm2 : m ∈ ts.filter (keepM s) := by
          rw [List.mem_filter]
          exact ⟨hm, by unfold keepM; rw [hid]; exact q2⟩
        have h1 := List.length_filter_le (fun m : Me => decide (m.id ≠ i)) (ts.filter (keepM s))
        rcases Nat.lt_or_ge ((ts.filter (keepM s)).filter (fun m : Me => decide (m.id ≠ i))).length (ts.filter (keepM s)).length with h | h
        · exact h
        · have h2 := List.filter_eq_self.1 (List.filter_sublist.eq_of_length_le (l₁ := (ts.filter (keepM s)).filter (fun m : Me => decide (m.id ≠ i))) (l₂ := ts.filter (keepM s)) (by omega)) m hm2
          simp [hid] at h2
      rw [if_neg (by omega)]
      exact drops_eq ts hn r (s.erase i) (hs.erase i) (fun j hj => hi j (List.mem_of_mem_erase hj))
    · have q2 : ¬ s.contains i = true := by simpa using q
      rw [if_neg q2, if_pos]
      · rfl
      · have : dropM i (ts.filter (keepM s)) = ts.filter (keepM s) := by
          unfold dropM
          rw [List.filter_eq_self]
          intro m hm
          rw [List.mem_filter] at hm
          have : m.id ∈ s := by simpa [keepM] using hm.2
          simp
          intro e
          rw [e] at this
          exact q this
        rw [this]
theorem drops_ids (ts : List Me) (hn : (ts.map Me.id).Nodup) (d : List Int) : dropsM d ts = (dropIds d (idsM ts)).map (fun s' => ts.filter (keepM s')) := by
  have h := drops_eq ts hn d (idsM ts) (idsM_nodup ts) (fun i hi => by
    obtain ⟨m, hm, e⟩ := (idsM_mem ts i).1 hi
    exact List.mem_map.2 ⟨m, hm, e⟩)
  have e : ts.filter (keepM (idsM ts)) = ts := by
    rw [List.filter_eq_self]
    intro m hm
    unfold keepM
    have := (idsM_mem ts m.id).2 ⟨m, hm, rfl⟩
    simpa using this
  rw [e] at h
  exact h
theorem dropIds_at (d : List Int) (k : Nat) (i : Int) (s : List Int) (h : d[k]? = some i) : dropIds (d.drop k) s = if s.contains i then dropIds (d.drop (k + 1)) (s.erase i) else none := by
  rw [List.drop_eq_getElem_cons (List.getElem?_eq_some_iff.1 h).1, (List.getElem?_eq_some_iff.1 h).2, dropIds]
theorem IntsR.elt {w : World} {v : Value} {l : List Int} (h : IntsR w v l) (k : Nat) (hk : k < l.length) : ∃ b off cap n, v = .slice (some ⟨b, off, none⟩) l.length cap ∧ l[k]? = some n ∧ w.cell? ⟨b, off + k, none⟩ = some (.int .i64 n) := by
  obtain ⟨b, off, cap, e, _, _, hc⟩ := Rws.at h k (by simpa using hk)
  simp only [List.length_map] at e
  have hg : (l.map irow).getD k [] = irow l[k] := by simp [List.getD, hk]
  rw [hg] at hc
  exact ⟨b, off, cap, l[k], e, by simp [hk], by simpa using hc 0 _ rfl⟩
theorem set_del_run {w : World} {b : Nat} {ids : List Int} (hs : SetWE w b ids) (hnd : ids.Nodup) (id : Int) (hid : In64 id) (ty : TypeId) :
    ∃ w', (Builtin.delete_ #[233, 3] ty #[.map (some b), .int .i64 id]).run Tryz.prog w = .ok (.tuple #[]) w' ∧ SetWE w' b (ids.erase id) ∧ w.mapTurned w' b := by
  obtain ⟨D, h1, h2, h3, h4⟩ := hs
  obtain ⟨w', hrun, r1, r2⟩ := h1.drop (Maps.int_keyed Tryz.underlying3) Tryz.underlying233 (Maps.keyOf_int_mk Tryz.underlying3 (wf_i64_of hid)) ty
  exact ⟨w', hrun, KeyW.del hnd h2 h3 h4 r1, r2⟩
def WoE (w : World) (ts : List Me) (r : Option (List Int)) (e : Ending) (w' : World) : Prop :=
  match r with
  | none => e = .returned (.tuple #[.slice none 0 0, .bool false])
  | some s => ∃ a n c, e = .returned (.tuple #[.slice a n c, .bool true]) ∧ OwnR w' w.heap.size 148 5 (.slice a n c) ((ts.filter (keepM s)).map meRow)
set_option maxHeartbeats 4000000 in
set_option maxRecDepth 100000 in
theorem without_any (ts : List Me) (drop : List Int) (v u : Value) (w : World) (hv : MetsR w v ts) (hu : IntsR w u drop) (hl : ts.length ≤ 256) (hi : ∀ m ∈ ts, In64 m.id) (hd : ∀ i ∈ drop, In64 i) :
    Calls Tryz.prog 175 #[v, u] w fun e w' => WoE w ts (dropIds drop (idsM ts)) e w' ∧ Hid (Below w.heap.size w w') := by
  have HV : Hid (MetsR w v ts) := hv
  have HUD : Hid (IntsR w u drop) := hu
  have HI : Hid (∀ m ∈ ts, In64 m.id) := hi
  have HD : Hid (∀ i ∈ drop, In64 i) := hd
  obtain ⟨a1, c1, rfl, g1, m1⟩ := hv.len
  obtain ⟨a2, c2, rfl, g2, m2⟩ := hu.len
  have hd63 : drop.length ≤ 9223372036854775807 := by unfold maxLen at m2; omega
  clear hv hu hi hd g1 m1 g2 m2
  have S1 : Hid (SetWE ((w.alloc (.map #[] 0)).alloc (.cells #[.map (some w.heap.size)] 233)) w.heap.size (idsM (ts.take 0))) := KeyW.up (KeyW.made _ w) (up_alloc _ _)
  have U1 : Hid (Below w.heap.size w ((w.alloc (.map #[] 0)).alloc (.cells #[.map (some w.heap.size)] 233))) := up_al (up_alloc _ _) _
  have B1 : Hid (((w.alloc (.map #[] 0)).alloc (.cells #[.map (some w.heap.size)] 233)).heap[w.heap.size + 1]? = some (.cells #[.map (some w.heap.size)] 233)) := by
    have := blk_new (w.alloc (.map #[] 0)) (.cells #[.map (some w.heap.size)] 233)
    rw [show (w.alloc (.map #[] 0)).heap.size = w.heap.size + 1 by simp] at this
    exact this
  have HNE : Hid (w.heap.size + 1 ≠ w.heap.size) := by unfold Hid; omega
  have HRES : Hid (∀ (e : Ending) (w' : World), WoE w ts (dropIds drop (idsM ts)) e w' → Below w.heap.size w w' → WoE w ts (dropIds drop (idsM ts)) e w' ∧ Hid (Below w.heap.size w w')) := fun e w' h1 h2 => ⟨h1, h2⟩
  obtain ⟨Post, hP⟩ : ∃ Post : Ending → World → Prop, Post = fun e w' => WoE w ts (dropIds drop (idsM ts)) e w' ∧ Hid (Below w.heap.size w w') := ⟨_, rfl⟩
  have HP : Hid (∀ e w', WoE w ts (dropIds drop (idsM ts)) e w' → Below w.heap.size w w' → Post e w') := fun e w' h1 h2 => by rw [hP]; exact ⟨h1, h2⟩
  rw [← hP]
  clear hP HRES
  have hmm := @run_makeMap Tryz.prog
  go_enter Tryz.func175, Tryz.ntmps175
  go_wp2_with fail
  generalize hNV : w.heap.size + 1 = NV at *
  have HNV : Hid (w.heap.size + 1 = NV) := hNV
  clear hNV
  go_loopw [16] (fun i wr => ∃ k : Nat, k ≤ ts.length ∧ i = .int .i64 k ∧ Hid (SetWE wr w.heap.size (idsM (ts.take k))) ∧ Hid (wr.heap[NV]? = some (.cells #[.map (some w.heap.size)] 233)) ∧ Hid (Below w.heap.size w wr)) (fun i _ => ts.length - (intOf i).toNat)
  case atStart => exact ⟨0, Nat.zero_le _, rfl, S1, B1, U1⟩
  case round =>
    clear S1 U1 B1
    obtain ⟨k, hk, rfl, HS, HB, HU⟩ := hrel
    by_cases hlt : k < ts.length
    · have hlt' : (k : Int) < (ts.length : Int) := by omega
      obtain ⟨b, off, cap, m, e, hm, z0, z1, z2, z3, z4⟩ := (HV.out.up HU.out).at k hlt
      simp at e
      obtain ⟨rfl, rfl⟩ := e
      have HID : Hid (In64 m.id) := HI.out m (List.mem_of_getElem? hm)
      have HSN : Hid (addId (idsM (ts.take k)) m.id = idsM (ts.take (k + 1))) := by
        rw [List.take_add_one, hm]
        exact (idsM_snoc _ _).symm
      have HSL : Hid ((idsM (ts.take k)).length < maxLen) := by
        have := idsM_len (ts.take k)
        rw [List.length_take] at this
        unfold Hid maxLen
        omega
      have UB : Hid (Below wr.heap.size wr (wr.alloc (meBox m))) := up_alloc _ _
      have BX : Hid (BoxM (wr.alloc (meBox m)) wr.heap.size m) := blk_new _ _
      have HU2 := hid (up_trans HU.out UB.out)
      have HB2 := hid (blk_up HB.out UB.out)
      have HS2 : Hid (SetWE (wr.alloc (meBox m)) w.heap.size (idsM (ts.take k))) := KeyW.up HS.out UB.out
      obtain ⟨w2, hw2⟩ : ∃ w2, w2 = wr.alloc (meBox m) := ⟨_, rfl⟩
      have HW2 : Hid (wr.alloc (.cells #[.int .i64 m.id, .int .i64 m.lvl, .int .i64 m.cnt, .string m.low, .string m.high] 148) = w2) := hw2.symm
      rw [← hw2] at UB BX HU2 HB2 HS2
      clear hw2 hm HS HB HU
      generalize idsM (ts.take k) = ids at *
      go_upto_region 5 with fail
      rw [HW2.out]
      clear HW2 UB z0 z1 z2 z3 z4
      generalize wr.heap.size = NX at *
      obtain ⟨m0, m1, m2, m3, m4⟩ := BX.out.cells
      have q0 := blk_cell HB2.out 0 _ rfl
      go_wp2_with (at_mapUpdate; refine wpList_set_putE _ rfl _ _ _ rfl w.heap.size ids rfl HS2.out HSL.out m.id HID.out rfl rfl ?_; intro W4 hC hT)
      have HF : Hid (SetWE W4 w.heap.size (idsM (ts.take (k + 1))) ∧ W4.heap[NV]? = some (.cells #[.map (some w.heap.size)] 233) ∧ Below w.heap.size w W4) := ⟨by rw [← HSN.out]; exact hC, turned_blk hT HNE.out HB2.out, HU2.out.trans (turned_below hT (Nat.le_refl _) HU2.out.size)⟩
      clear hC hT
      exact ⟨⟨k + 1, by omega, by go_num, HF.out.1, HF.out.2.1, HF.out.2.2⟩, by simp [intOf]; omega⟩
    · have hlt' : ¬ (k : Int) < (ts.length : Int) := by omega
      obtain rfl : k = ts.length := by omega
      rw [List.take_length] at HS
      have HN0 : Hid ((idsM ts).Nodup) := idsM_nodup ts
      have HL0 : Hid (dropIds drop (idsM ts) = dropIds (drop.drop 0) (idsM ts)) := rfl
      go_wp2_with fail
      go_loopw [27] (fun i wr => ∃ (j : Nat) (s : List Int), j ≤ drop.length ∧ i = .int .i64 j ∧ Hid (SetWE wr w.heap.size s) ∧ Hid (s.Nodup) ∧ Hid (dropIds drop (idsM ts) = dropIds (drop.drop j) s) ∧ Hid (wr.heap[NV]? = some (.cells #[.map (some w.heap.size)] 233)) ∧ Hid (Below w.heap.size w wr)) (fun i _ => drop.length - (intOf i).toNat)
      case atStart => exact ⟨0, idsM ts, Nat.zero_le _, rfl, HS, HN0, HL0, HB, HU⟩
      case round =>
        clear HS HN0 HL0 HB HU
        obtain ⟨j, s, hj, rfl, HS, HN, HL, HB, HU⟩ := hrel
        have q0 := blk_cell HB.out 0 _ rfl
        by_cases hjl : j < drop.length
        · have hjl' : (j : Int) < (drop.length : Int) := by omega
          obtain ⟨b, off, cap, x, e, hx, x0⟩ := (HUD.out.up HU.out).elt j hjl
          simp at e
          obtain ⟨rfl, rfl⟩ := e
          have HXI : Hid (In64 x) := HD.out x (List.mem_of_getElem? hx)
          have HAT : Hid (dropIds (drop.drop j) s = if s.contains x then dropIds (drop.drop (j + 1)) (s.erase x) else none) := dropIds_at drop j x s hx
          clear hx
          cases hc : s.contains x
          · have HR : Hid (dropIds drop (idsM ts) = none) := by unfold Hid; rw [HL.out, HAT.out, hc]; rfl
            have HC : Hid (s.contains x = false) := hc
            clear hc
            go_wp2_with (at_lookup; refine wpList_set_has _ rfl _ _ rfl w.heap.size s rfl HS.out x HXI.out rfl ?_; rw [HC.out])
            refine HP.out _ _ ?_ ?_
            · rw [HR.out]; rfl
            · first | exact HU.out | exact up_al HU.out _
          · have HE2 : Hid (dropIds drop (idsM ts) = dropIds (drop.drop (j + 1)) (s.erase x)) := by unfold Hid; rw [HL.out, HAT.out, hc]; rfl
            have HC : Hid (s.contains x = true) := hc
            clear hc
            have HZ : Hid (SetWE (wr.alloc (.cells #[] 131)) w.heap.size s) := KeyW.up HS.out (up_alloc _ _)
            have HB2 := hid (blk_up HB.out (up_alloc wr (.cells #[] 131)))
            have HU2 := hid (up_al HU.out (.cells #[] 131))
            have q2 := blk_cell HB2.out 0 _ rfl
            obtain ⟨W4, hrun, hC, hT⟩ := set_del_run HZ.out HN.out x HXI.out 0
            have HF : Hid (SetWE W4 w.heap.size (s.erase x) ∧ W4.heap[NV]? = some (.cells #[.map (some w.heap.size)] 233) ∧ Below w.heap.size w W4) := ⟨hC, turned_blk hT HNE.out HB2.out, HU2.out.trans (turned_below hT (Nat.le_refl _) HU2.out.size)⟩
            have HN2 : Hid ((s.erase x).Nodup) := HN.out.erase x
            clear hC hT
            go_wp2_with (at_lookup; refine wpList_set_has _ rfl _ _ rfl w.heap.size s rfl HS.out x HXI.out rfl ?_; rw [HC.out])
            exact ⟨⟨j + 1, s.erase x, by omega, by go_num, HF.out.1, HN2, HE2, HF.out.2.1, HF.out.2.2⟩, by simp [intOf]; omega⟩
        · have hjl' : ¬ (j : Int) < (drop.length : Int) := by omega
          obtain rfl : j = drop.length := by omega
          have HR : Hid (dropIds drop (idsM ts) = some s) := by unfold Hid; rw [HL.out, List.drop_length]; rfl
          have HCH : Hid (Calls Tryz.prog 199 #[.slice a1 ts.length c1, .func (.func 200) #[] #[.pointer (some ⟨NV, 0, none⟩)]] wr fun e w' => ∃ a n c, e = .returned (.slice a n c) ∧ Hid (OwnR w' wr.heap.size 148 5 (.slice a n c) ((ts.filter (keepM s)).map meRow)) ∧ Hid (Below wr.heap.size wr w')) := by
            refine chosen48_any (keepM s) NV ts _ wr (HV.out.up HU.out) hl (fun m hm W hW => ?_)
            exact without1_any m NV w.heap.size s W (blk_cell (blk_up HB.out hW) 0 _ rfl) (KeyW.up HS.out hW) (HI.out m hm)
          go_wp2_with (go_at_call 199; refine HCH.out.mono ?_; rintro e w5 ⟨ra, rn, rc, rfl, O5, U5⟩)
          refine HP.out _ _ ?_ (up_trans HU.out U5.out)
          rw [HR.out]
          exact ⟨ra, rn, rc, rfl, O5.out.mono HU.out.size⟩
end Go.Proofs.YtnchjlimkgbfpaaGreatDoor
