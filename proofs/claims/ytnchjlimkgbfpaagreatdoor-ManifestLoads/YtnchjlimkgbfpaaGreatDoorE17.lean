/- The texts ELaw, AWith, ASort, LInts, in this order. -/
import Derived.Test.YtnchjlimkgbfpaaGreatDoorE15
import Derived.Test.YtnchjlimkgbfpaaGreatDoorE16
import Derived.Shelf.SlSortCmp.WholeK
import Derived.Shelf.SlSortCmp.NoneTotal
import Derived.Test.YtnchjlimkgbfpaaGreatDoorE03

namespace Go.Proofs.YtnchjlimkgbfpaaGreatDoor
open Go.RowKit
set_option linter.unusedVariables false
set_option maxRecDepth 20000
set_option linter.unusedSimpArgs false
theorem Tryz.info139 : (Tryz.prog.info? 139).map (fun i => (i.zero, i.size, i.bytes)) = some (some (.agg #[.int .i64 0, .int .i64 0, .int .i64 0, .string ⟨#[]⟩, .string ⟨#[]⟩]), 5, 56) := by kernel_rfl
theorem Tryz.info148 : (Tryz.prog.info? 148).map (fun i => (i.zero, i.size, i.bytes)) = some (some (.agg #[.int .i64 0, .int .i64 0, .int .i64 0, .string ⟨#[]⟩, .string ⟨#[]⟩]), 5, 56) := by kernel_rfl
theorem meRow_one (y : Me) : ∀ u ∈ meRow y, u.oneCell' = true := by
  intro u hu
  simp only [meRow, List.mem_cons, List.mem_nil_iff, or_false] at hu
  rcases hu with rfl | rfl | rfl | rfl | rfl <;> rfl
theorem meRow_len (y : Me) : (meRow y).length = 5 := rfl
set_option maxHeartbeats 1000000 in
set_option maxRecDepth 100000 in
theorem sameMetas_self (l : List Me) (v u : Value) (w : World) (hv : MetsR w v l) (hu : MetsR w u l) :
    Calls Tryz.prog 48 #[v, u] w fun e w' => e = .returned (.bool true) ∧ ∃ d, w' = w.drewN d := by
  have HV : Hid (MetsR w v l) := hv
  have HU : Hid (MetsR w u l) := hu
  obtain ⟨a1, c1, rfl, g1, m1⟩ := hv.len
  obtain ⟨a2, c2, rfl, g2, m2⟩ := hu.len
  have hl63 : l.length ≤ 9223372036854775807 := by unfold maxLen at m1; omega
  clear hv hu g1 g2 m1 m2
  go_enter Tryz.func48, Tryz.ntmps48
  go_wp2_with fail
  go_loopw [5] (fun i wr => ∃ (k d : Nat), k ≤ l.length ∧ i = .int .i64 k ∧ wr = w.drewN d) (fun i _ => l.length - (intOf i).toNat)
  case atStart => exact ⟨0, 0, Nat.zero_le _, rfl, rfl⟩
  case round =>
    obtain ⟨k, d, hk, rfl, rfl⟩ := hrel
    by_cases hlt : k < l.length
    · have hlt' : (k : Int) < (l.length : Int) := by omega
      obtain ⟨b, off, cap, x, e, hx, x0, x1, x2, x3, x4⟩ := HV.out.at k hlt
      obtain ⟨b', off', cap', y, e', hy, y0, y1, y2, y3, y4⟩ := HU.out.at k hlt
      simp at e e'
      obtain ⟨rfl, rfl⟩ := e
      obtain ⟨rfl, rfl⟩ := e'
      obtain rfl : x = y := by rw [hx] at hy; simpa using hy
      clear hx hy
      go_wp2_with fail
      go_quiet (fail)
      go_wp2_with fail
      exact ⟨⟨k + 1, d + nq, by omega, by go_num, rfl⟩, by simp [intOf]; omega⟩
    · have hlt' : ¬ (k : Int) < (l.length : Int) := by omega
      go_wp2_with fail
      go_ret
      exact ⟨rfl, d, rfl⟩
set_option maxHeartbeats 1000000 in
set_option maxRecDepth 100000 in
theorem refMetas_own (l : List Me) (v : Value) (w : World) (hv : MetsR w v l) (hl : l.length ≤ 4000000000000) :
    Calls Tryz.prog 68 #[v] w fun e w' => ∃ a n c, e = .returned (.slice a n c) ∧ Hid (OwnR w' w.heap.size 139 5 (.slice a n c) (l.map meRow)) ∧ Hid (Below w.heap.size w w') := by
  have HV : Hid (Rws 5 w v (l.map meRow)) := hv
  have HB : Hid ((((([] : List (List Value)).length + (l.map meRow).length) + (([] : List (List Value)).length + (l.map meRow).length) / 4 + 192) * 56 ≤ 281474976710656) ∧ ([] : List (List Value)).length + (l.map meRow).length ≤ maxLen) := by
    unfold Hid
    rw [List.length_map]
    unfold maxLen
    simp only [List.length_nil]
    omega
  clear hv
  go_enter Tryz.func68, Tryz.ntmps68
  go_wp2_with (at_builtin; refine wpList_append_rows w rfl _ _ 26 139 _ 5 56 rfl Tryz.underlying26 Tryz.info139 rfl (by decide) w.heap.size (.slice none 0 0) [] rfl (OwnR.nil _ _ _ _) v (l.map meRow) rfl HV.out ?c1 HB.out.1 HB.out.2 (Nat.le_refl _) ?_)
  case c1 =>
    intro cs hcs u hu
    obtain ⟨s, _, rfl⟩ := List.mem_map.1 hcs
    exact meRow_one s u hu
  intro v' w' hown hg
  have HT : Hid (OwnR w' w.heap.size 139 5 v' (l.map meRow)) := hown
  have HU : Hid (Below w.heap.size w w') := (Below.refl _ _).grown hg (Nat.le_refl _) (by simp [Value.ownBlock])
  clear hown hg
  obtain ⟨a, c, e, _, _⟩ := (Rws.own HT.out).len
  obtain ⟨n, hn⟩ : ∃ n, n = (l.map meRow).length := ⟨_, rfl⟩
  rw [← hn] at e
  subst e
  clear hn
  go_wp2
  go_ret
  exact ⟨a, n, c, rfl, HT, HU⟩
set_option maxHeartbeats 2000000 in
set_option maxRecDepth 100000 in
theorem ofMetas_own (l : List Me) (v : Value) (w : World) (hv : MetsR w v l) (hl : l.length ≤ 4000000000000) :
    Calls Tryz.prog 31 #[v] w fun e w' => ∃ a c, e = .returned (.slice a l.length c) ∧ Hid (OwnR w' w.heap.size 148 5 (.slice a l.length c) (l.map meRow)) ∧ Hid (Below w.heap.size w w') := by
  have HV : Hid (MetsR w v l) := hv
  obtain ⟨a1, c1, rfl, g1, m1⟩ := hv.len
  have hl63 : l.length ≤ 9223372036854775807 := by unfold maxLen at m1; omega
  clear hv g1 m1
  go_enter Tryz.func31, Tryz.ntmps31
  go_wp2_with fail
  go_loopw [3, 4] (fun o i wr => ∃ (k : Nat) (ao : Option Addr) (co : Nat), k ≤ l.length ∧ i = .int .i64 k ∧ o = .slice ao k co ∧ Hid (OwnR wr w.heap.size 148 5 (.slice ao k co) ((l.take k).map meRow)) ∧ Hid (Below w.heap.size w wr)) (fun _ i _ => l.length - (intOf i).toNat)
  case atStart => exact ⟨0, none, 0, Nat.zero_le _, rfl, rfl, OwnR.nil _ _ _ _, Below.refl _ _⟩
  case round =>
    obtain ⟨k, ao, co, hk, rfl, rfl, HO, HB⟩ := hrel
    by_cases hlt : k < l.length
    · have hlt' : (k : Int) < (l.length : Int) := by omega
      obtain ⟨b, off, cap, x, e, hx, x0, x1, x2, x3, x4⟩ := (HV.out.up HB.out).at k hlt
      simp at e
      obtain ⟨rfl, rfl⟩ := e
      have HT : Hid ((l.take k).map meRow ++ [[.int .i64 x.id, .int .i64 x.lvl, .int .i64 x.cnt, .string x.low, .string x.high]] = (l.take (k + 1)).map meRow) := by
        unfold Hid; rw [List.take_add_one, hx, List.map_append]; rfl
      have HLT : Hid (((l.take k).map meRow).length = k) := by unfold Hid; rw [List.length_map, List.length_take]; omega
      have HC : Hid ((((l.take k).map meRow).length + 1 + (((l.take k).map meRow).length + 1) / 4 + 192) * 56 ≤ 281474976710656 ∧ ((l.take k).map meRow).length + 1 ≤ maxLen) := by
        unfold Hid; rw [HLT.out]; unfold maxLen; omega
      have HLT1 : Hid (((l.take (k + 1)).map meRow).length = k + 1) := by unfold Hid; rw [List.length_map, List.length_take]; omega
      have HO1 : Hid (∀ u ∈ ([.int .i64 x.id, .int .i64 x.lvl, .int .i64 x.cnt, .string x.low, .string x.high] : List Value), u.oneCell' = true) := meRow_one x
      have S0 : Hid (w.heap.size ≤ wr.heap.size) := HB.out.size
      clear hx
      generalize (l.take k).map meRow = T1 at *
      obtain ⟨T2, hT2⟩ : ∃ T2, (l.take (k + 1)).map meRow = T2 := ⟨_, rfl⟩
      rw [hT2] at HT HLT1
      have HT2 : Hid ((l.take (k + 1)).map meRow = T2) := hT2
      clear hT2
      go_wp2_with (at_builtin; refine wpList_append_row wr rfl _ _ 37 148 _ 5 56 rfl Tryz.underlying37 Tryz.info148 rfl (by decide) w.heap.size (.slice ao k co) T1 rfl HO.out [.int .i64 x.id, .int .i64 x.lvl, .int .i64 x.cnt, .string x.low, .string x.high] _ _ rfl rfl rfl rfl HO1.out HC.out.1 HC.out.2 S0.out ?_)
      intro v2 w2 O2 B2
      rw [HT.out] at O2
      have U2 : Hid (Below w.heap.size w w2) := HB.out.trans B2
      obtain ⟨a3, c3, e3, _, _⟩ := (Rws.own O2).len
      rw [HLT1.out] at e3
      subst e3
      have O3 : Hid (OwnR w2 w.heap.size 148 5 (.slice a3 (k + 1) c3) T2) := O2
      clear O2 B2 HO HT HLT HC HLT1
      go_wp2_with fail
      exact ⟨⟨k + 1, a3, c3, by omega, by go_num, rfl, by rw [HT2.out]; exact O3, U2⟩, by simp [intOf]; omega⟩
    · have hlt' : ¬ (k : Int) < (l.length : Int) := by omega
      obtain rfl : k = l.length := by omega
      rw [List.take_length] at HO
      go_wp2_with fail
      go_ret
      exact ⟨ao, co, rfl, HO, HB⟩
end Go.Proofs.YtnchjlimkgbfpaaGreatDoor

namespace Go.Proofs.YtnchjlimkgbfpaaGreatDoor
open Go.RowKit
set_option linter.unusedVariables false
set_option maxRecDepth 20000
set_option linter.unusedSimpArgs false
set_option maxRecDepth 100000 in
theorem without1_any (m : Me) (B NB : Nat) (ids : List Int) (w : World) (hB : w.cell? ⟨B, 0, none⟩ = some (.map (some NB))) (hs : SetWE w NB ids) (hi : In64 m.id) :
    Calls Tryz.prog 200 #[.agg #[.int .i64 m.id, .int .i64 m.lvl, .int .i64 m.cnt, .string m.low, .string m.high], .pointer (some ⟨B, 0, none⟩)] w fun e w' => e = .returned (.bool (ids.contains m.id)) ∧ Hid (Below w.heap.size w w') := by
  have UB : Hid (Below w.heap.size w (w.alloc (meBox m))) := up_alloc _ _
  have HS : Hid (SetWE (w.alloc (meBox m)) NB ids) := KeyW.up hs UB.out
  have HBB : Hid ((w.alloc (meBox m)).cell? ⟨B, 0, none⟩ = some (.map (some NB))) := (UB.out.cell (World.block_lt_of_cell? w _ hB)).trans hB
  have BX : Hid (BoxM (w.alloc (meBox m)) w.heap.size m) := blk_new _ _
  obtain ⟨w2, hw2⟩ : ∃ w2, w2 = w.alloc (meBox m) := ⟨_, rfl⟩
  have HW2 : Hid (w.alloc (.cells #[.int .i64 m.id, .int .i64 m.lvl, .int .i64 m.cnt, .string m.low, .string m.high] 148) = w2) := hw2.symm
  rw [← hw2] at UB HS HBB BX
  clear hw2 hs hB
  have hcell : w2.cell? ⟨B, 0, none⟩ = some (.map (some NB)) := HBB.out
  obtain ⟨m0, m1, m2, m3, m4⟩ := BX.out.cells
  have HI : Hid (In64 m.id) := hi
  clear hi
  generalize hR : ids.contains m.id = R
  have HR : Hid (ids.contains m.id = R) := hR
  clear hR
  go_enter Tryz.func200, Tryz.ntmps200
  go_upto_region 1 with fail
  rw [HW2.out]
  go_wp2_with (at_lookup; refine wpList_set_has _ rfl _ _ rfl NB ids rfl HS.out m.id HI.out rfl ?_; rw [HR.out])
  go_ret
  exact ⟨rfl, by first | exact UB | exact up_al UB.out _⟩
set_option maxHeartbeats 2000000 in
set_option maxRecDepth 100000 in
theorem chosen48_any (P : Me → Bool) (B : Nat) (ts : List Me) (v : Value) (w : World) (hv : MetsR w v ts) (hl : ts.length ≤ 256)
    (hc : ∀ m ∈ ts, ∀ W, Below w.heap.size w W → Calls Tryz.prog 200 #[.agg #[.int .i64 m.id, .int .i64 m.lvl, .int .i64 m.cnt, .string m.low, .string m.high], .pointer (some ⟨B, 0, none⟩)] W fun e w' => e = .returned (.bool (P m)) ∧ Hid (Below W.heap.size W w')) :
    Calls Tryz.prog 199 #[v, .func (.func 200) #[] #[.pointer (some ⟨B, 0, none⟩)]] w fun e w' => ∃ a n c, e = .returned (.slice a n c) ∧ Hid (OwnR w' w.heap.size 148 5 (.slice a n c) ((ts.filter P).map meRow)) ∧ Hid (Below w.heap.size w w') := by
  have HV : Hid (MetsR w v ts) := hv
  have HC : Hid (∀ m ∈ ts, ∀ W, Below w.heap.size w W → Calls Tryz.prog 200 #[.agg #[.int .i64 m.id, .int .i64 m.lvl, .int .i64 m.cnt, .string m.low, .string m.high], .pointer (some ⟨B, 0, none⟩)] W fun e w' => e = .returned (.bool (P m)) ∧ Hid (Below W.heap.size W w')) := hc
  obtain ⟨a1, c1, rfl, g1, m1⟩ := hv.len
  clear hv hc g1 m1
  go_enter Tryz.func199, Tryz.ntmps199
  go_wp2_with fail
  go_loopw [5, 10] (fun o i wr => ∃ (k : Nat) (ao : Option Addr) (no co : Nat), k ≤ ts.length ∧ i = .int .i64 k ∧ o = .slice ao no co ∧ Hid (OwnR wr w.heap.size 148 5 (.slice ao no co) (((ts.take k).filter P).map meRow)) ∧ Hid (Below w.heap.size w wr)) (fun _ i _ => ts.length - (intOf i).toNat)
  case atStart => exact ⟨0, none, 0, 0, Nat.zero_le _, rfl, rfl, OwnR.nil _ _ _ _, Below.refl _ _⟩
  case round =>
    obtain ⟨k, ao, no, co, hk, rfl, rfl, HO, HB⟩ := hrel
    by_cases hlt : k < ts.length
    · have hlt' : (k : Int) < (ts.length : Int) := by omega
      obtain ⟨b, off, cap, x, e, hx, x0, x1, x2, x3, x4⟩ := (HV.out.up HB.out).at k hlt
      simp at e
      obtain ⟨rfl, rfl⟩ := e
      have HX : Hid (ts[k]? = some x) := hx
      have HMX : Hid (x ∈ ts) := List.mem_of_getElem? hx
      clear hx
      have UB : Hid (Below wr.heap.size wr (wr.alloc (meBox x))) := up_alloc _ _
      have BX : Hid (BoxM (wr.alloc (meBox x)) wr.heap.size x) := blk_new _ _
      have HB2 : Hid (Below w.heap.size w (wr.alloc (meBox x))) := up_al HB.out _
      have HO2 : Hid (OwnR (wr.alloc (meBox x)) w.heap.size 148 5 (.slice ao no co) (((ts.take k).filter P).map meRow)) := HO.out.up UB.out
      have HCX : Hid (∀ W, Below w.heap.size w W → Calls Tryz.prog 200 #[.agg #[.int .i64 x.id, .int .i64 x.lvl, .int .i64 x.cnt, .string x.low, .string x.high], .pointer (some ⟨B, 0, none⟩)] W fun e w' => e = .returned (.bool (P x)) ∧ Hid (Below W.heap.size W w')) := HC.out x HMX.out
      obtain ⟨w2, hw2⟩ : ∃ w2, w2 = wr.alloc (meBox x) := ⟨_, rfl⟩
      have HW2 : Hid (wr.alloc (.cells #[.int .i64 x.id, .int .i64 x.lvl, .int .i64 x.cnt, .string x.low, .string x.high] 148) = w2) := hw2.symm
      rw [← hw2] at UB HB2 HO2 BX
      clear hw2 HO
      cases hp : P x
      · have HT : Hid (((ts.take (k + 1)).filter P) = (ts.take k).filter P) := by
          unfold Hid
          rw [List.take_add_one, HX.out, List.filter_append]
          simp [hp]
        rw [hp] at HCX
        go_upto_region 5 with fail
        rw [HW2.out]
        clear HW2 UB
        generalize wr.heap.size = NX at *
        obtain ⟨m0, m1, m2, m3, m4⟩ := BX.out.cells
        go_wp2_with (go_at_call 200; refine (HCX.out _ HB2.out).mono ?_; rintro e w3 ⟨rfl, u3⟩)
        exact ⟨⟨k + 1, ao, no, co, by omega, by go_num, rfl, by rw [HT.out]; exact HO2.out.up u3.out, up_trans HB2.out u3.out⟩, by simp [intOf]; omega⟩
      · have HT : Hid ((((ts.take k).filter P).map meRow) ++ [[.int .i64 x.id, .int .i64 x.lvl, .int .i64 x.cnt, .string x.low, .string x.high]] = ((ts.take (k + 1)).filter P).map meRow) := by
          unfold Hid
          rw [List.take_add_one, HX.out, List.filter_append, List.map_append]
          simp [hp, meRow]
        rw [hp] at HCX
        have HC2 : Hid ((((((ts.take k).filter P).map meRow).length + 1 + ((((ts.take k).filter P).map meRow).length + 1) / 4 + 192) * 56 ≤ 281474976710656) ∧ (((ts.take k).filter P).map meRow).length + 1 ≤ maxLen) := by
          have h1 := List.length_filter_le P (ts.take k)
          rw [List.length_take] at h1
          unfold Hid maxLen
          rw [List.length_map]
          omega
        have HO1 : Hid (∀ u ∈ ([.int .i64 x.id, .int .i64 x.lvl, .int .i64 x.cnt, .string x.low, .string x.high] : List Value), u.oneCell' = true) := meRow_one x
        obtain ⟨T2, hT2⟩ : ∃ T2, ((ts.take (k + 1)).filter P).map meRow = T2 := ⟨_, rfl⟩
        rw [hT2] at HT
        have HT2 : Hid (((ts.take (k + 1)).filter P).map meRow = T2) := hT2
        clear hT2 HX
        generalize ((ts.take k).filter P).map meRow = T1 at *
        go_upto_region 5 with fail
        rw [HW2.out]
        clear HW2 UB x0 x1 x2 x3 x4
        generalize wr.heap.size = NX at *
        obtain ⟨m0, m1, m2, m3, m4⟩ := BX.out.cells
        go_wp2_with fail
        refine (HCX.out _ HB2.out).mono ?_
        rintro e w3 ⟨rfl, u3⟩
        have HB3 : Hid (Below w.heap.size w w3) := up_trans HB2.out u3.out
        have HO3 := hid (HO2.out.up u3.out)
        have BX3 := hid (BX.out.up u3.out)
        have S0 : Hid (w.heap.size ≤ w3.heap.size) := HB3.out.size
        clear u3 HO2 BX HB2 HCX m0 m1 m2 m3 m4
        obtain ⟨m0, m1, m2, m3, m4⟩ := BX3.out.cells
        go_wp2_with (at_builtin; refine wpList_append_row w3 rfl _ _ 37 148 _ 5 56 rfl Tryz.underlying37 Tryz.info148 rfl (by decide) w.heap.size (.slice ao no co) T1 rfl HO3.out [.int .i64 x.id, .int .i64 x.lvl, .int .i64 x.cnt, .string x.low, .string x.high] _ _ rfl rfl rfl rfl HO1.out HC2.out.1 HC2.out.2 S0.out ?_)
        intro v2 w4 O2 B2
        rw [HT.out] at O2
        have U4 : Hid (Below w.heap.size w w4) := HB3.out.trans B2
        obtain ⟨a3, c3, e3, _, _⟩ := (Rws.own O2).len
        obtain ⟨n3, hn3⟩ : ∃ n3, n3 = T2.length := ⟨_, rfl⟩
        rw [← hn3] at e3
        clear hn3
        subst e3
        have O3 : Hid (OwnR w4 w.heap.size 148 5 (.slice a3 n3 c3) T2) := O2
        clear O2 B2 HO3 HT HC2 m0 m1 m2 m3 m4
        go_wp2_with fail
        exact ⟨⟨k + 1, a3, n3, c3, by omega, by go_num, rfl, by rw [HT2.out]; exact O3, U4⟩, by simp [intOf]; omega⟩
    · have hlt' : ¬ (k : Int) < (ts.length : Int) := by omega
      obtain rfl : k = ts.length := by omega
      rw [List.take_length] at HO
      go_wp2_with fail
      go_ret
      exact ⟨ao, no, co, rfl, HO, HB⟩
end Go.Proofs.YtnchjlimkgbfpaaGreatDoor

namespace Go.Proofs.YtnchjlimkgbfpaaGreatDoor
open Go.Shelf Go.RowKit Go.Lib Go.Sort
set_option linter.unusedVariables false
set_option maxRecDepth 20000
set_option linter.unusedSimpArgs false
def Tryz.sortMe_ren : Go.Shelf.Ren := ⟨fun | 6 => 176 | 14 => 201 | 15 => 202 | 20 => 217 | 21 => 218 | 22 => 219 | 23 => 220 | 24 => 221 | 25 => 222 | 26 => 223 | 27 => 224 | 28 => 225 | 29 => 158 | 46 => 230 | 47 => 231 | 48 => 232 | 49 => 233 | 50 => 234 | 57 => 236 | n => n, fun | 22 => 37 | 24 => 148 | 25 => 238 | 3 => 3 | 39 => 213 | 0 => 0 | 53 => 214 | 55 => 156 | 4 => 4 | 46 => 301 | 45 => 300 | 50 => 121 | 5 => 5 | 9 => 9 | 66 => 308 | 70 => 312 | 76 => 317 | 77 => 318 | n => n, fun | n => n⟩
theorem Tryz.sortMe : Go.Proofs.SlLaysF0.n6 Tryz.prog Tryz.sortMe_ren := {
  mixed := by kernel_rfl
  f6 := ⟨Tryz.f176.name, by decide, Tryz.func176.trans (congrArg some (by kernel_rfl))⟩
  f14 := ⟨Tryz.f201.name, by decide, Tryz.func201.trans (congrArg some (by kernel_rfl))⟩
  f15 := Tryz.func202.trans (congrArg some (by kernel_rfl))
  f20 := ⟨Tryz.f217.name, by decide, Tryz.func217.trans (congrArg some (by kernel_rfl))⟩
  f21 := ⟨Tryz.f218.name, by decide, Tryz.func218.trans (congrArg some (by kernel_rfl))⟩
  f22 := ⟨Tryz.f219.name, by decide, Tryz.func219.trans (congrArg some (by kernel_rfl))⟩
  f23 := ⟨Tryz.f220.name, by decide, Tryz.func220.trans (congrArg some (by kernel_rfl))⟩
  f24 := ⟨Tryz.f221.name, by decide, Tryz.func221.trans (congrArg some (by kernel_rfl))⟩
  f25 := ⟨Tryz.f222.name, by decide, Tryz.func222.trans (congrArg some (by kernel_rfl))⟩
  f26 := ⟨Tryz.f223.name, by decide, Tryz.func223.trans (congrArg some (by kernel_rfl))⟩
  f27 := ⟨Tryz.f224.name, by decide, Tryz.func224.trans (congrArg some (by kernel_rfl))⟩
  f28 := Tryz.func225.trans (congrArg some (by kernel_rfl))
  f29 := Tryz.func158.trans (congrArg some (by kernel_rfl))
  f46 := ⟨Tryz.f230.name, by decide, Tryz.func230.trans (congrArg some (by kernel_rfl))⟩
  f47 := Tryz.func231.trans (congrArg some (by kernel_rfl))
  f48 := Tryz.func232.trans (congrArg some (by kernel_rfl))
  f49 := ⟨Tryz.f233.name, by decide, Tryz.func233.trans (congrArg some (by kernel_rfl))⟩
  f50 := ⟨Tryz.f234.name, by decide, Tryz.func234.trans (congrArg some (by kernel_rfl))⟩
  f57 := ⟨Tryz.f236.name, by decide, Tryz.func236.trans (congrArg some (by kernel_rfl))⟩
  t0 := Tryz.underlying0
  a0 := Tryz.isAgg0
  z0 := Tryz.sizeOf0
  v0 := Tryz.zeroValue0
  t3 := Tryz.underlying3
  a3 := Tryz.isAgg3
  z3 := Tryz.sizeOf3
  v3 := Tryz.zeroValue3
  t4 := Tryz.underlying4
  a4 := Tryz.isAgg4
  z4 := Tryz.sizeOf4
  v4 := Tryz.zeroValue4
  t5 := Tryz.underlying5
  a5 := Tryz.isAgg5
  z5 := Tryz.sizeOf5
  v5 := Tryz.zeroValue5
  t9 := Tryz.underlying9
  a9 := Tryz.isAgg9
  z9 := Tryz.sizeOf9
  v9 := Tryz.zeroValue9
  t22 := Tryz.underlying37
  a22 := Tryz.isAgg37
  z22 := Tryz.sizeOf37
  v22 := Tryz.zeroValue37
  t25 := Tryz.underlying238
  a25 := Tryz.isAgg238
  z25 := Tryz.sizeOf238
  v25 := Tryz.zeroValue238
  t39 := Tryz.underlying213
  a39 := Tryz.isAgg213
  z39 := Tryz.sizeOf213
  v39 := Tryz.zeroValue213
  t45 := Tryz.underlying300
  a45 := Tryz.isAgg300
  z45 := Tryz.sizeOf300
  v45 := Tryz.zeroValue300
  t46 := Tryz.underlying301
  a46 := Tryz.isAgg301
  z46 := Tryz.sizeOf301
  v46 := Tryz.zeroValue301
  t50 := Tryz.underlying121
  a50 := Tryz.isAgg121
  z50 := Tryz.sizeOf121
  v50 := Tryz.zeroValue121
  t53 := Tryz.underlying214
  a53 := Tryz.isAgg214
  z53 := Tryz.sizeOf214
  v53 := Tryz.zeroValue214
  t55 := Tryz.underlying156
  a55 := Tryz.isAgg156
  z55 := Tryz.sizeOf156
  v55 := Tryz.zeroValue156
  t66 := Tryz.underlying308
  a66 := Tryz.isAgg308
  z66 := Tryz.sizeOf308
  v66 := Tryz.zeroValue308
  t70 := Tryz.underlying312
  a70 := Tryz.isAgg312
  z70 := Tryz.sizeOf312
  v70 := Tryz.zeroValue312
  t76 := Tryz.underlying317
  a76 := Tryz.isAgg317
  z76 := Tryz.sizeOf317
  v76 := Tryz.zeroValue317
  t77 := Tryz.underlying318
  a77 := Tryz.isAgg318
  z77 := Tryz.sizeOf318
  v77 := Tryz.zeroValue318 }
theorem isAgg65 (w : World) : (isAgg 148).run Tryz.prog w = .ok true w := by kernel_rfl
theorem sizeOf65 (w : World) : (Go.sizeOf 148).run Tryz.prog w = .ok 5 w := by kernel_rfl
theorem befM_irrefl (a : Me) : befM a a = false := by
  unfold befM
  rw [if_pos rfl]
  by_cases z : a.lvl = 0
  · rw [if_pos z]; simp
  · rw [if_neg z]; exact bl_selfM _
theorem bl_ntrans {a b c : List UInt8} (h1 : Op.bytesLess a b = false) (h2 : Op.bytesLess b c = false) : Op.bytesLess a c = false := by
  cases q : Op.bytesLess a c
  · rfl
  · exfalso
    cases r : Op.bytesLess b a
    · have e := bl_totalM a b h1 r
      subst e
      rw [h2] at q; cases q
    · have := bl_transM b a c r q
      rw [h2] at this; cases this
theorem befM_ntrans (a b c : Me) (h1 : befM a b = false) (h2 : befM b c = false) : befM a c = false := by
  unfold befM at *
  by_cases e1 : a.lvl = b.lvl
  · rw [if_pos e1] at h1
    by_cases e2 : b.lvl = c.lvl
    · rw [if_pos e2] at h2
      rw [if_pos (e1.trans e2)]
      by_cases z : a.lvl = 0
      · rw [if_pos z] at h1 ⊢
        rw [if_pos (e1 ▸ z)] at h2
        simp only [decide_eq_false_iff_not] at *
        omega
      · rw [if_neg z] at h1 ⊢
        rw [if_neg (e1 ▸ z)] at h2
        exact bl_ntrans h1 h2
    · rw [if_neg e2] at h2
      rw [if_neg (by rw [e1]; exact e2)]
      simp only [decide_eq_false_iff_not] at *
      omega
  · rw [if_neg e1] at h1
    simp only [decide_eq_false_iff_not] at h1
    by_cases e2 : b.lvl = c.lvl
    · rw [if_neg (by omega)]
      simp only [decide_eq_false_iff_not]
      omega
    · rw [if_neg e2] at h2
      simp only [decide_eq_false_iff_not] at h2
      rw [if_neg (by omega)]
      simp only [decide_eq_false_iff_not]
      omega
theorem ltOf_ord (x y : Me) : ltOf ordM x y = befM x y := ordM_lt x y
theorem swoM : SWO (ltOf ordM) where
  irrefl x := by rw [ltOf_ord]; exact befM_irrefl x
  trans x y z h1 h2 := by rw [ltOf_ord] at *; exact befM_trans h1 h2
  ntrans x y z h1 h2 := by rw [ltOf_ord] at *; exact befM_ntrans x y z h1 h2
theorem cmpLays31 (blk off size : Nat) (w : World) : CmpLays Tryz.prog 153 #[] meRow 5 ordM blk off size w :=
  fun m os dk _ x y => (order_any x y _).mono fun e w' ⟨he, hw⟩ => ⟨he, 0, #[meBox x] ++ #[meBox y], by rw [hw, alloc_eq_grow, alloc_eq_grow, grow_grow]; rfl⟩
theorem flatK_list (d : Array Me) : (flatK meRow 5 d).toList = (d.toList.map meRow).flatten := by
  have hx : ∀ cs ∈ d.toList.map meRow, cs.length = 5 := by
    intro cs h
    obtain ⟨m, _, rfl⟩ := List.mem_map.1 h
    rfl
  refine List.ext_getElem? (fun t => ?_)
  by_cases ht : t < d.size * 5
  · have h1 : t / 5 < d.size := by omega
    have h2 : (d.toList.map meRow)[t / 5]? = some (meRow d[t / 5]) := by simp [h1]
    have h3 : (meRow d[t / 5])[t % 5]? = some (meRow d[t / 5])[t % 5]! := by
      have : t % 5 < (meRow d[t / 5]).length := by rw [meRow_len]; omega
      simp [this]
    have := flat_at (d.toList.map meRow) hx (t / 5) _ h2 (t % 5) _ h3
    rw [show t / 5 * 5 + t % 5 = t by omega] at this
    rw [this]
    simp [flatK, ht, h1]
  · have h1 : (flatK meRow 5 d).toList.length ≤ t := by simp; omega
    have h2 : (d.toList.map meRow).flatten.length ≤ t := by rw [flat_rows _ hx]; simp; omega
    rw [List.getElem?_eq_none h1, List.getElem?_eq_none h2]
theorem holdsK_of {w : World} {g : Nat} {cur : Array Value} {e : TypeId} {l : List Me} (hb : w.heap[g]? = some (.cells cur e (0, 0))) (ht : cur.toList.take (l.length * 5) = (l.map meRow).flatten) : HoldsK meRow 5 w g 0 l.toArray := by
  intro j hj
  have hj' : j < l.length * 5 := by simpa using hj
  refine ⟨?_, by simp [World.frozen?, hb]⟩
  have h1 : (cur.toList.take (l.length * 5))[j]? = (l.map meRow).flatten[j]? := by rw [ht]
  rw [List.getElem?_take_of_lt hj'] at h1
  have h2 := flatK_list l.toArray
  rw [List.toList_toArray] at h2
  rw [← h2] at h1
  simp only [World.cell?, hb, Nat.zero_add]
  simp only [Option.isSome_none, Bool.false_eq_true, if_false]
  rw [← Array.getElem?_toList, h1, Array.getElem?_toList]
  rw [Array.getElem?_eq_getElem (by simpa using hj')]
  rw [getElem!_pos _ j hj]
  rfl
theorem heapK {w : World} {g n : Nat} {os : Array Obj} {cur : Array Value} {e : TypeId} {fr : Nat × Nat} (d : Array Me) (hb : w.heap[g]? = some (.cells cur e fr)) :
    (sortWorldK meRow 5 w g 0 n d os).heap[g]? = some (.cells (putCells id 0 (flatK meRow 5 d) cur) e fr) := by
  have hg : g < w.heap.size := (Array.getElem?_eq_some_iff.1 hb).1
  unfold sortWorldK putRowK
  rw [heap_grow_old _ _ (by simpa using hg)]
  simp [putRow, mapBlock, Sort.ahead, Array.getElem?_modify, hb, onCells]
theorem grownByK {w : World} {g n : Nat} {os : Array Obj} (d : Array Me) : w.grownBy (sortWorldK meRow 5 w g 0 n d os) (some g) := by
  unfold sortWorldK putRowK
  refine ⟨rfl, rfl, rfl, by simp, fun k hk hne => ?_⟩
  rw [heap_grow_old _ _ (by simpa using hk)]
  have : g ≠ k := fun e => hne (by rw [e])
  simp [putRow, mapBlock, Sort.ahead, Array.getElem?_modify, this]
theorem take_putK (cur F : Array Value) (h : F.size ≤ cur.size) : (putCells id 0 F cur).toList.take F.size = F.toList := by
  apply List.ext_getElem?
  intro j
  by_cases hj : j < F.size
  · rw [List.getElem?_take_of_lt hj, Array.getElem?_toList]
    simp [putCells, hj, show j < cur.size by omega]
  · rw [List.getElem?_take_eq_none (by omega), List.getElem?_eq_none (by simp; omega)]
def SrtM (l : List Me) : Prop := l.Pairwise (fun a b => befM b a = false)
theorem srtM_of {d : Array Me} (h : SortedIn (ltOf ordM) 0 d.size d) : SrtM d.toList := by
  unfold SrtM
  rw [List.pairwise_iff_getElem]
  intro i j hi hj hij
  have := h i j (Nat.zero_le _) hij (by simpa using hj)
  rw [ltOf_ord, getElem!_pos _ j (by simpa using hj), getElem!_pos _ i (by simpa using hi)] at this
  simpa using this
set_option maxHeartbeats 1000000 in
theorem sort_any (l : List Me) (a : Option Addr) (n c base : Nat) (w : World) (h : OwnR w base 148 5 (.slice a n c) (l.map meRow)) (hbase : base ≤ w.heap.size) (hl62 : l.length < 4611686018427387904) :
    Calls Tryz.prog 176 #[.slice a n c, .func (.func 153) #[] #[]] w fun e w' => e = .returned (.tuple #[]) ∧ Hid (∃ l', l'.Perm l ∧ SrtM l' ∧ OwnR w' base 148 5 (.slice a n c) (l'.map meRow)) ∧ Hid (Below base w w') := by
  have eg : ∀ args w, (callFunc 153 args).run Tryz.prog w = .ok (.enter 153 args) w := enters_of Tryz.func153 (by kernel_rfl) rfl
  obtain ⟨h0, h1, h2⟩ := h
  rcases h2 with ⟨hn, hz⟩ | ⟨g, cap, cur, hs, hg, hb, hc1, hc2, hc3, ht⟩
  · rw [hn]
    have hl : l = [] := by
      rw [List.length_map] at hz
      exact List.length_eq_zero_iff.1 hz
    subst hl
    have hcon := AnyF.slices_SortFunc_none Tryz.sortMe none 0 (.func (.func 153) #[] #[]) w
    change Calls Tryz.prog 176 _ _ _ at hcon
    refine hcon.mono ?_
    rintro e w' ⟨rfl, rfl⟩
    exact ⟨rfl, ⟨[], .refl _, List.Pairwise.nil, OwnR.nil _ _ _ _⟩, Below.refl _ _⟩
  · simp only [Value.slice.injEq, List.length_map] at hs hc1 ht
    obtain ⟨rfl, rfl, rfl⟩ := hs
    have hblk := (Array.getElem?_eq_some_iff.1 hb).1
    have hcon := AnyQ.slices_SortFunc Tryz.sortMe 5 isAgg65 sizeOf65 meRow meRow_len meRow_one ordM swoM 153 #[] g 0 c l.toArray w eg (cmpLays31 g 0 _ w) (holdsK_of hb ht) hblk (by simpa using hl62)
    change Calls Tryz.prog 176 _ _ _ at hcon
    simp only [List.size_toArray] at hcon
    refine hcon.mono ?_
    rintro e w' ⟨rfl, d', n', os, ⟨hp1, hp2, hp3⟩, hsd, rfl⟩
    simp only [List.size_toArray] at hp1
    have hpl : d'.toList.Perm l := by
      have e1 : (d'.extract 0 l.length).toList = d'.toList := by rw [← hp1]; simp
      have e2 : (l.toArray.extract 0 l.length).toList = l := by simp
      rw [e1, e2] at hp3
      exact hp3
    have hlen : d'.toList.length = l.length := hpl.length_eq
    refine ⟨rfl, ⟨d'.toList, hpl, srtM_of (by rw [hp1]; exact hsd), ?_, ?_⟩, ?_⟩
    · intro cs hcs
      obtain ⟨m, _, rfl⟩ := List.mem_map.1 hcs
      rfl
    · have hsz : (flatK meRow 5 d').size = l.length * 5 := by rw [size_flatK, hp1]
      refine ⟨?_, .inr ⟨g, c, _, ?_, hg, heapK d' hb, ?_, hc2, ?_, ?_⟩⟩
      · rw [← flatK_list]; simp [hp1]
      · simp [hp1]
      · simp [hp1]; exact hc1
      · simp [putCells, hc3]
      · rw [List.length_map, hlen, ← hsz, take_putK cur _ (by rw [hsz, hc3]; omega), flatK_list]
    · exact (Below.refl _ _).grown (grownByK d') hbase (fun k hk => by injection hk with hk; omega)
end Go.Proofs.YtnchjlimkgbfpaaGreatDoor

namespace Go.Proofs.YtnchjlimkgbfpaaGreatDoor
open Go.RowKit
set_option linter.unusedVariables false
set_option maxRecDepth 20000
def irow (n : Int) : List Value := [.int .i64 n]
def IntsR (w : World) (v : Value) (l : List Int) : Prop := Rws 1 w v (l.map irow)
theorem IntsR.up {w w' : World} {v : Value} {l : List Int} (h : IntsR w v l) (hb : Below w.heap.size w w') : IntsR w' v l := Rws.up h hb
theorem IntsR.len {w : World} {v : Value} {l : List Int} (h : IntsR w v l) : ∃ a cap, v = .slice a l.length cap ∧ l.length ≤ cap ∧ cap ≤ maxLen := by
  obtain ⟨a, c, e, h1, h2⟩ := Rws.len h
  simp only [List.length_map] at e h1
  exact ⟨a, c, e, h1, h2⟩
theorem IntsR.at {w : World} {v : Value} {l : List Int} (h : IntsR w v l) (k : Nat) (hk : k < l.length) :
    ∃ b off cap n, v = .slice (some ⟨b, off, none⟩) l.length cap ∧ l[k]? = some n ∧ w.cell? ⟨b, off + k, none⟩ = some (.int .i64 n) := by
  obtain ⟨b, off, cap, e, _, _, hc⟩ := Rws.at h k (by simpa using hk)
  simp only [List.length_map] at e
  refine ⟨b, off, cap, l[k], e, by simp [hk], ?_⟩
  have := hc 0 (.int .i64 l[k]) (by simp [List.getD, hk, irow])
  simpa using this
theorem Tryz.info3 : (Tryz.prog.info? 3).map (fun i => (i.zero, i.size, i.bytes)) = some (some (.int .i64 0), 1, 8) := by kernel_rfl
end Go.Proofs.YtnchjlimkgbfpaaGreatDoor
