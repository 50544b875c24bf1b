/- The program's closures, and the tables that they choose. -/
import Derived.Test.YtjdibpmckeifhaaAChk2
import Derived.Test.YtjdibpmckeifhaaELaw
namespace Go.Proofs.Ytjdibpmckeifhaa
open Go.RowKit
set_option linter.unusedVariables false
set_option linter.unusedSimpArgs false

set_option maxRecDepth 100000 in
theorem at1_any (m : Me) (B : Nat) (lev : Int) (w : World) (hB : w.cell? ⟨B, 0, none⟩ = some (.int .i64 lev)) :
    Calls Try.prog 47 #[.agg #[.int .i64 m.id, .int .i64 m.lvl, .int .i64 m.cnt, .string m.low, .string m.high], .pointer (some ⟨B, 0, none⟩)] w fun e w' => e = .returned (.bool (decide (m.lvl = lev))) ∧ Hid (Below w.heap.size w w') := by
  have UB : Hid (Below w.heap.size w (w.alloc (meBox m))) := up_alloc _ _
  have HBB : Hid ((w.alloc (meBox m)).cell? ⟨B, 0, none⟩ = some (.int .i64 lev)) := (UB.out.cell (World.block_lt_of_cell? w _ hB)).trans hB
  have BX : Hid (BoxM (w.alloc (meBox m)) w.heap.size m) := blk_new _ _
  obtain ⟨w2, hw2⟩ : ∃ w2, w2 = w.alloc (meBox m) := ⟨_, rfl⟩
  have HW2 : Hid (w.alloc (.cells #[.int .i64 m.id, .int .i64 m.lvl, .int .i64 m.cnt, .string m.low, .string m.high] 70) = w2) := hw2.symm
  rw [← hw2] at UB HBB BX
  clear hw2 hB
  have hcell : w2.cell? ⟨B, 0, none⟩ = some (.int .i64 lev) := HBB.out
  obtain ⟨m0, m1, m2, m3, m4⟩ := BX.out.cells
  have HE : Hid ((m.lvl == lev) = decide (m.lvl = lev)) := by unfold Hid; rw [Bool.eq_iff_iff]; simp
  generalize decide (m.lvl = lev) = R at *
  have hE : (m.lvl == lev) = R := HE.out
  go_enter Try.func47, Try.ntmps47
  go_upto_region 1 with fail
  rw [HW2.out]
  go_wp2_with fail
  go_ret
  exact ⟨rfl, UB⟩

set_option maxHeartbeats 2000000 in
set_option maxRecDepth 100000 in
theorem chosen35_any (P : Me → Bool) (B : Nat) (ts : List Me) (v : Value) (w : World) (hv : MetsR w v ts) (hl : ts.length ≤ 256)
    (hc : ∀ m ∈ ts, ∀ W, Below w.heap.size w W → Calls Try.prog 47 #[.agg #[.int .i64 m.id, .int .i64 m.lvl, .int .i64 m.cnt, .string m.low, .string m.high], .pointer (some ⟨B, 0, none⟩)] W fun e w' => e = .returned (.bool (P m)) ∧ Hid (Below W.heap.size W w')) :
    Calls Try.prog 46 #[v, .func (.func 47) #[] #[.pointer (some ⟨B, 0, none⟩)]] w fun e w' => ∃ a n c, e = .returned (.slice a n c) ∧ Hid (OwnR w' w.heap.size 70 5 (.slice a n c) ((ts.filter P).map meRow)) ∧ Hid (Below w.heap.size w w') := by
  have HV : Hid (MetsR w v ts) := hv
  have HC : Hid (∀ m ∈ ts, ∀ W, Below w.heap.size w W → Calls Try.prog 47 #[.agg #[.int .i64 m.id, .int .i64 m.lvl, .int .i64 m.cnt, .string m.low, .string m.high], .pointer (some ⟨B, 0, none⟩)] W fun e w' => e = .returned (.bool (P m)) ∧ Hid (Below W.heap.size W w')) := hc
  obtain ⟨a1, c1, rfl, g1, m1⟩ := hv.len
  clear hv hc g1 m1
  go_enter Try.func46, Try.ntmps46
  go_wp2_with fail
  go_loopw [5, 10] (fun o i wr => ∃ (k : Nat) (ao : Option Addr) (no co : Nat), k ≤ ts.length ∧ i = .int .i64 k ∧ o = .slice ao no co ∧ Hid (OwnR wr w.heap.size 70 5 (.slice ao no co) (((ts.take k).filter P).map meRow)) ∧ Hid (Below w.heap.size w wr)) (fun _ i _ => ts.length - (intOf i).toNat)
  case atStart => exact ⟨0, none, 0, 0, Nat.zero_le _, rfl, rfl, OwnR.nil _ _ _ _, Below.refl _ _⟩
  case round =>
    obtain ⟨k, ao, no, co, hk, rfl, rfl, HO, HB⟩ := hrel
    by_cases hlt : k < ts.length
    · have hlt' : (k : Int) < (ts.length : Int) := by omega
      obtain ⟨b, off, cap, x, e, hx, x0, x1, x2, x3, x4⟩ := (HV.out.up HB.out).at k hlt
      simp at e
      obtain ⟨rfl, rfl⟩ := e
      have HX : Hid (ts[k]? = some x) := hx
      have HMX : Hid (x ∈ ts) := List.mem_of_getElem? hx
      clear hx
      have UB : Hid (Below wr.heap.size wr (wr.alloc (meBox x))) := up_alloc _ _
      have BX : Hid (BoxM (wr.alloc (meBox x)) wr.heap.size x) := blk_new _ _
      have HB2 : Hid (Below w.heap.size w (wr.alloc (meBox x))) := up_al HB.out _
      have HO2 : Hid (OwnR (wr.alloc (meBox x)) w.heap.size 70 5 (.slice ao no co) (((ts.take k).filter P).map meRow)) := HO.out.up UB.out
      have HCX : Hid (∀ W, Below w.heap.size w W → Calls Try.prog 47 #[.agg #[.int .i64 x.id, .int .i64 x.lvl, .int .i64 x.cnt, .string x.low, .string x.high], .pointer (some ⟨B, 0, none⟩)] W fun e w' => e = .returned (.bool (P x)) ∧ Hid (Below W.heap.size W w')) := HC.out x HMX.out
      obtain ⟨w2, hw2⟩ : ∃ w2, w2 = wr.alloc (meBox x) := ⟨_, rfl⟩
      have HW2 : Hid (wr.alloc (.cells #[.int .i64 x.id, .int .i64 x.lvl, .int .i64 x.cnt, .string x.low, .string x.high] 70) = w2) := hw2.symm
      rw [← hw2] at UB HB2 HO2 BX
      clear hw2 HO
      cases hp : P x
      · have HT : Hid (((ts.take (k + 1)).filter P) = (ts.take k).filter P) := by
          unfold Hid
          rw [List.take_add_one, HX.out, List.filter_append]
          simp [hp]
        rw [hp] at HCX
        go_upto_region 5 with fail
        rw [HW2.out]
        clear HW2 UB
        generalize wr.heap.size = NX at *
        obtain ⟨m0, m1, m2, m3, m4⟩ := BX.out.cells
        go_wp2_with (go_at_call 47; refine (HCX.out _ HB2.out).mono ?_; rintro e w3 ⟨rfl, u3⟩)
        exact ⟨⟨k + 1, ao, no, co, by omega, by go_num, rfl, by rw [HT.out]; exact HO2.out.up u3.out, up_trans HB2.out u3.out⟩, by simp [intOf]; omega⟩
      · have HT : Hid ((((ts.take k).filter P).map meRow) ++ [[.int .i64 x.id, .int .i64 x.lvl, .int .i64 x.cnt, .string x.low, .string x.high]] = ((ts.take (k + 1)).filter P).map meRow) := by
          unfold Hid
          rw [List.take_add_one, HX.out, List.filter_append, List.map_append]
          simp [hp, meRow]
        rw [hp] at HCX
        have HC2 : Hid ((((((ts.take k).filter P).map meRow).length + 1 + ((((ts.take k).filter P).map meRow).length + 1) / 4 + 192) * 56 ≤ 281474976710656) ∧ (((ts.take k).filter P).map meRow).length + 1 ≤ maxLen) := by
          have h1 := List.length_filter_le P (ts.take k)
          rw [List.length_take] at h1
          unfold Hid maxLen
          rw [List.length_map]
          omega
        have HO1 : Hid (∀ u ∈ ([.int .i64 x.id, .int .i64 x.lvl, .int .i64 x.cnt, .string x.low, .string x.high] : List Value), u.oneCell' = true) := meRow_one x
        obtain ⟨T2, hT2⟩ : ∃ T2, ((ts.take (k + 1)).filter P).map meRow = T2 := ⟨_, rfl⟩
        rw [hT2] at HT
        have HT2 : Hid (((ts.take (k + 1)).filter P).map meRow = T2) := hT2
        clear hT2 HX
        generalize ((ts.take k).filter P).map meRow = T1 at *
        go_upto_region 5 with fail
        rw [HW2.out]
        clear HW2 UB x0 x1 x2 x3 x4
        generalize wr.heap.size = NX at *
        obtain ⟨m0, m1, m2, m3, m4⟩ := BX.out.cells
        go_wp2_with fail
        refine (HCX.out _ HB2.out).mono ?_
        rintro e w3 ⟨rfl, u3⟩
        have HB3 : Hid (Below w.heap.size w w3) := up_trans HB2.out u3.out
        have HO3 := hid (HO2.out.up u3.out)
        have BX3 := hid (BX.out.up u3.out)
        have S0 : Hid (w.heap.size ≤ w3.heap.size) := HB3.out.size
        clear u3 HO2 BX HB2 HCX m0 m1 m2 m3 m4
        obtain ⟨m0, m1, m2, m3, m4⟩ := BX3.out.cells
        go_wp2_with (at_builtin; refine wpList_append_row w3 rfl _ _ 25 70 _ 5 56 rfl Try.underlying25 Try.info70 rfl (by decide) w.heap.size (.slice ao no co) T1 rfl HO3.out [.int .i64 x.id, .int .i64 x.lvl, .int .i64 x.cnt, .string x.low, .string x.high] _ _ rfl rfl rfl rfl HO1.out HC2.out.1 HC2.out.2 S0.out ?_)
        intro v2 w4 O2 B2
        rw [HT.out] at O2
        have U4 : Hid (Below w.heap.size w w4) := HB3.out.trans B2
        obtain ⟨a3, c3, e3, _, _⟩ := (Rws.own O2).len
        obtain ⟨n3, hn3⟩ : ∃ n3, n3 = T2.length := ⟨_, rfl⟩
        rw [← hn3] at e3
        clear hn3
        subst e3
        have O3 : Hid (OwnR w4 w.heap.size 70 5 (.slice a3 n3 c3) T2) := O2
        clear O2 B2 HO3 HT HC2 m0 m1 m2 m3 m4
        go_wp2_with fail
        exact ⟨⟨k + 1, a3, n3, c3, by omega, by go_num, rfl, by rw [HT2.out]; exact O3, U4⟩, by simp [intOf]; omega⟩
    · have hlt' : ¬ (k : Int) < (ts.length : Int) := by omega
      obtain rfl : k = ts.length := by omega
      rw [List.take_length] at HO
      go_wp2_with fail
      go_ret
      exact ⟨ao, no, co, rfl, HO, HB⟩
end Go.Proofs.Ytjdibpmckeifhaa
