/- The law's alive. -/
import Derived.Test.YtjdibpmckeifhaaJCho
import Derived.Test.YtjdibpmckeifhaaJLaw
namespace Go.Proofs.Ytjdibpmckeifhaa
open Go.RowKit
set_option linter.unusedVariables false
set_option linter.unusedSimpArgs false

def exN (k : Nat) : List Me := (List.range k).map (fun i : Nat => (⟨4 - (i : Int), 0, 1, ⟨#[97]⟩, ⟨#[98]⟩⟩ : Me))
theorem exN_step (k : Nat) : exN (k + 1) = exN k ++ [⟨4 - (k : Int), 0, 1, ⟨#[97]⟩, ⟨#[98]⟩⟩] := by
  unfold exN
  rw [List.range_succ, List.map_append]
  rfl
theorem exN_len (k : Nat) : (exN k).length = k := by unfold exN; simp
theorem exN_cho : choM (exN 4) 0 9 = ⟨0, [4, 3, 2, 1], true, true, 0⟩ := by kernel_rfl
set_option maxHeartbeats 4000000 in
set_option maxRecDepth 100000 in
theorem alive_any (w : World) : Calls Try.prog 19 #[] w fun e w' => e = .returned (.bool true) ∧ Hid (Below w.heap.size w w') := by
  obtain ⟨w0, hw0⟩ : ∃ w0, w0 = w.alloc (.cells #[.slice none 0 0, .int .i64 0, .int .i64 9] 27) := ⟨_, rfl⟩
  have HW0 : Hid (w.alloc (.cells #[.slice none 0 0, .int .i64 0, .int .i64 9] 27) = w0) := hw0.symm
  have U0 : Hid (Below w.heap.size w w0) := by rw [hw0]; exact up_alloc _ _
  have B0 : Hid (w0.heap[w.heap.size]? = some (.cells #[.slice none 0 0, .int .i64 0, .int .i64 9] 27)) := by rw [hw0]; exact blk_new _ _
  clear hw0
  go_enter Try.func19, Try.ntmps19
  go_upto_region 2 with fail
  rw [HW0.out]
  clear HW0
  generalize hNB : w.heap.size = NB at *
  go_wp2_with fail
  go_loopw [2] (fun i wr => ∃ (j k : Nat) (a : Option Addr) (n c : Nat), j + k = 4 ∧ i = .int .i64 j ∧ Hid (wr.heap[NB]? = some (.cells #[.slice a n c, .int .i64 0, .int .i64 9] 27)) ∧ Hid (OwnR wr (NB + 1) 70 5 (.slice a n c) ((exN k).map meRow)) ∧ Hid (Below NB w wr)) (fun i _ => (intOf i).toNat)
  case atStart => exact ⟨4, 0, none, 0, 0, rfl, rfl, B0, OwnR.nil _ _ _ _, U0⟩
  case round =>
    clear B0 U0
    clear w0
    obtain ⟨j, k, va, vn, vc, hjk, rfl, HBX, HO, HB⟩ := hrel
    have y0 := blk_cell HBX.out 0 _ rfl
    have y1 := blk_cell HBX.out 1 _ rfl
    have y2 := blk_cell HBX.out 2 _ rfl
    have f0 := blk_frozen HBX.out 0
    by_cases hlt : 0 < j
    · have hlt' : (0 : Int) < (j : Int) := by omega
      have hj4 : (j : Int) ≤ 4 := by omega
      have HT : Hid ((exN k).map meRow ++ [[.int .i64 (j : Int), .int .i64 0, .int .i64 1, .string ⟨#[97]⟩, .string ⟨#[98]⟩]] = (exN (k + 1)).map meRow) := by
        unfold Hid
        rw [exN_step, List.map_append]
        congr 1
        show _ = [meRow _]
        unfold meRow
        rw [show (4 : Int) - (k : Int) = (j : Int) by omega]
      have HC2 : Hid ((((exN k).map meRow).length + 1 + (((exN k).map meRow).length + 1) / 4 + 192) * 56 ≤ 281474976710656 ∧ ((exN k).map meRow).length + 1 ≤ maxLen) := by
        unfold Hid maxLen; rw [List.length_map, exN_len]; omega
      have HO1 : Hid (∀ u ∈ ([.int .i64 (j : Int), .int .i64 0, .int .i64 1, .string ⟨#[97]⟩, .string ⟨#[98]⟩] : List Value), u.oneCell' = true) := by
        intro u hu
        simp only [List.mem_cons, List.mem_nil_iff, or_false] at hu
        rcases hu with rfl | rfl | rfl | rfl | rfl <;> rfl
      have S0 : Hid (NB + 1 ≤ wr.heap.size) := by have := blk_lt HBX.out; unfold Hid; omega
      have HNE := hid (own_blk_ne HO.out.2 HBX.out (by decide))
      have HDEC : Hid ((j : Int) - 1 = ((j - 1 : Nat) : Int)) := by unfold Hid; omega
      have HJK : Hid (j - 1 + (k + 1) = 4) := by unfold Hid; omega
      obtain ⟨T2, hT2⟩ : ∃ T2, (exN (k + 1)).map meRow = T2 := ⟨_, rfl⟩
      rw [hT2] at HT
      have HT2 := hid hT2
      clear hT2 hjk
      generalize (exN k).map meRow = T1 at *
      go_wp2_with (at_builtin; refine wpList_append_row wr rfl _ _ 25 70 _ 5 56 rfl Try.underlying25 Try.info70 rfl (by decide) (NB + 1) (.slice va vn vc) T1 rfl HO.out [.int .i64 (j : Int), .int .i64 0, .int .i64 1, .string ⟨#[97]⟩, .string ⟨#[98]⟩] _ _ rfl rfl rfl rfl HO1.out HC2.out.1 HC2.out.2 S0.out ?_)
      intro v2 w4 O2 B2
      rw [HT.out] at O2
      obtain ⟨a3, n3, c3, rfl, O3⟩ := rows_shape O2
      have X4 := hid (blk_low HBX.out B2 (Nat.lt_succ_self NB))
      have U4 := hid (HB.out.trans (B2.mono (Nat.le_succ NB)))
      have X5 := hid (blk_set X4.out 0 (.slice a3 n3 c3))
      have O5 : Hid (OwnR (w4.setCell ⟨NB, 0, none⟩ (.slice a3 n3 c3)) (NB + 1) 70 5 (.slice a3 n3 c3) T2) := OwnR.far O3.out (grown_set w4 ⟨NB, 0, none⟩ _) (own_blk_ne O3.out.2 X4.out (by decide))
      have U5 : Hid (Below NB w (w4.setCell ⟨NB, 0, none⟩ (.slice a3 n3 c3))) := U4.out.trans (below_grown (grown_set w4 ⟨NB, 0, none⟩ _) (by have := blk_lt X4.out; omega) (fun q hq => by injection hq with hq; have : NB = q := hq; omega))
      clear O2 B2 HO HT HC2 y0 y1 y2 f0 HBX HB U4 O3
      have y0 := blk_cell X4.out 0 _ rfl
      have f0 := blk_frozen X4.out 0
      go_wp2_with fail
      exact ⟨⟨j - 1, k + 1, a3, n3, c3, HJK.out, by rw [← HDEC.out], X5, by rw [HT2.out]; exact O5, U5⟩, by simp [intOf]; omega⟩
    · have hlt' : ¬ (0 : Int) < (j : Int) := by omega
      obtain rfl : j = 0 := by omega
      obtain rfl : k = 4 := by omega
      have HCH := hid (choose_any (exN 4) 0 9 va vn vc wr (Rws.own HO.out))
      rw [exN_cho] at HCH
      clear hjk f0
      go_wp2_with fail
      refine HCH.out.mono ?_
      rintro e w1 ⟨a, n, c, rfl, HN, HI, u1⟩
      obtain rfl : n = 4 := HN.out
      have HU := hid (u1.out.mono (show NB ≤ wr.heap.size by have := blk_lt HBX.out; omega))
      have HU2 := hid (HB.out.trans HU.out)
      have S1 : Hid (NB ≤ w1.heap.size) := Nat.le_trans (by have := blk_lt HBX.out; omega) u1.out.size
      clear u1 HI HN HCH y0 y1 y2
      go_wp2_with fail
      refine (num_any _ _).mono ?_
      rintro e w2 ⟨rfl, rfl⟩
      go_wp2_with fail
      go_ret
      exact ⟨rfl, by rw [hNB]; exact HU2.out.alloc S1.out _⟩
end Go.Proofs.Ytjdibpmckeifhaa
