/- The document's Full. -/
import Derived.Test.YtjdibpmckeifhaaJFul
namespace Go.Proofs.Ytjdibpmckeifhaa
open Go.RowKit
set_option linter.unusedVariables false
set_option linter.unusedSimpArgs false

set_option maxHeartbeats 4000000 in
set_option maxRecDepth 100000 in
theorem refFull_any (ts : List Me) (seq next : Int) (va : Option Addr) (vn vc : Nat) (w : World) (hv : MetsR w (.slice va vn vc) ts) :
    Calls Try.prog 10 #[.agg #[.slice va vn vc, .int .i64 seq, .int .i64 next]] w (FullE w ts seq next) := by
  obtain ⟨Post, hP⟩ : ∃ Post : Ending → World → Prop, Post = FullE w ts seq next := ⟨_, rfl⟩
  have HP : Hid (∀ e w', FullE w ts seq next e w' → Post e w') := fun e w' h => by rw [hP]; exact h
  rw [← hP]
  clear hP
  have HV : Hid (MetsR w (.slice va vn vc) ts) := hv
  clear hv
  obtain ⟨w0, hw0⟩ : ∃ w0, w0 = w.alloc (.cells #[.slice va vn vc, .int .i64 seq, .int .i64 next] 24) := ⟨_, rfl⟩
  have HW0 : Hid (w.alloc (.cells #[.slice va vn vc, .int .i64 seq, .int .i64 next] 24) = w0) := hw0.symm
  have U0 : Hid (Below w.heap.size w w0) := by rw [hw0]; exact up_alloc _ _
  have B0 : Hid (w0.heap[w.heap.size]? = some (.cells #[.slice va vn vc, .int .i64 seq, .int .i64 next] 24)) := by rw [hw0]; exact blk_new _ _
  clear hw0
  have HCK : Hid (Calls Try.prog 20 #[.agg #[.slice va vn vc, .int .i64 seq, .int .i64 next]] w0 fun e w' => e = .returned (.int .i64 (errV ts seq next)) ∧ Hid (Below w0.heap.size w0 w')) := refCheck_any ts seq next va vn vc w0 (HV.out.up U0.out)
  have x0 := blk_cell B0.out 0 _ rfl
  have x1 := blk_cell B0.out 1 _ rfl
  have x2 := blk_cell B0.out 2 _ rfl
  go_enter Try.func10, Try.ntmps10
  go_upto_region 1 with fail
  rw [HW0.out]
  clear HW0
  rcases errV_cases ts seq next with hc | hc
  case inr =>
    rw [hc] at HCK
    have HR : Hid (errV ts seq next = 9) := hc
    clear hc
    go_wp2_with fail
    refine HCK.out.mono ?_
    rintro e w1 ⟨rfl, u1⟩
    go_wp2_with fail
    refine HP.out _ _ ?_
    unfold FullE
    rw [if_neg (by rw [HR.out]; decide)]
    exact ⟨rfl, up_trans U0.out u1.out⟩
  have HC0 : Hid (errV ts seq next = 0) := hc
  rw [hc] at HCK
  clear hc
  go_wp2_with fail
  refine HCK.out.mono ?_
  rintro e w1 ⟨rfl, u1⟩
  have U1 := hid (up_trans U0.out u1.out)
  replace B0 := hid (blk_up B0.out u1.out)
  clear u1 HCK U0 x0 x1 x2
  clear w0
  go_wp2_with fail
  go_loopw [4, 5] (fun o i wr => ∃ (k : Nat) (ao : Option Addr) (no co : Nat), k ≤ 3 ∧ i = .int .i64 k ∧ o = .slice ao no co ∧ Hid (OwnR wr w1.heap.size 3 1 (.slice ao no co) ((fullN ts k).map irow)) ∧ Hid (Below w1.heap.size w1 wr)) (fun _ i _ => 3 - (intOf i).toNat)
  case atStart => exact ⟨0, none, 0, 0, Nat.zero_le _, rfl, rfl, OwnR.nil _ _ _ _, Below.refl _ _⟩
  case round =>
    obtain ⟨k, ao, no, co, hk, rfl, rfl, HO, HB⟩ := hrel
    have BB := hid (blk_up B0.out HB.out)
    have y0 := blk_cell BB.out 0 _ rfl
    have y1 := blk_cell BB.out 1 _ rfl
    have y2 := blk_cell BB.out 2 _ rfl
    have HVr : Hid (MetsR wr (.slice va vn vc) ts) := (HV.out.up U1.out).up HB.out
    by_cases hlt : k < 3
    · have hlt' : (k : Int) < 3 := by omega
      have HFN : Hid (fullN ts (k + 1) = fullN ts k ++ (if fullB k (atM ts k) = true then [(k : Int)] else [])) := fullN_step ts k
      have HK : Hid (Calls Try.prog 26 #[.agg #[.slice va vn vc, .int .i64 seq, .int .i64 next], .int .i64 k] wr fun e w' => e = .returned (.bool (fullB k (atM ts k))) ∧ Hid (Below wr.heap.size wr w')) := refFul_any k ts seq next va vn vc wr HVr.out HC0.out
      clear HVr
      go_wp2_with fail
      refine HK.out.mono ?_
      rintro e w3 ⟨rfl, u3⟩
      have u2 := hid (Below.refl wr.heap.size wr)
      have U3 := hid (up_trans HB.out (u3.out))
      have HO3 := hid (HO.out.up (u3.out))
      clear u2 u3 HK HO y0 y1 y2 BB
      cases hq : fullB k (atM ts k) with
      | false =>
        have HT : Hid (fullN ts (k + 1) = fullN ts k) := by unfold Hid; rw [HFN.out, if_neg (by rw [hq]; decide), List.append_nil]
        clear hq HFN
        go_wp2_with fail
        exact ⟨⟨k + 1, ao, no, co, by omega, by go_num, rfl, by rw [HT.out]; exact HO3, U3⟩, by simp [intOf]; omega⟩
      | true =>
        have HT : Hid ((fullN ts k).map irow ++ [[.int .i64 (k : Int)]] = (fullN ts (k + 1)).map irow) := by unfold Hid; rw [HFN.out, if_pos hq, List.map_append]; rfl
        have HC2 : Hid ((((fullN ts k).map irow).length + 1 + (((fullN ts k).map irow).length + 1) / 4 + 192) * 8 ≤ 281474976710656 ∧ ((fullN ts k).map irow).length + 1 ≤ maxLen) := by
          have := fullN_len ts k
          unfold Hid maxLen; rw [List.length_map]; omega
        have HO1 : Hid (∀ u ∈ ([.int .i64 (k : Int)] : List Value), u.oneCell' = true) := by intro u hu; simp at hu; subst hu; rfl
        have S0 : Hid (w1.heap.size ≤ w3.heap.size) := U3.out.size
        obtain ⟨T2, hT2⟩ : ∃ T2, (fullN ts (k + 1)).map irow = T2 := ⟨_, rfl⟩
        rw [hT2] at HT
        have HT2 : Hid ((fullN ts (k + 1)).map irow = T2) := hT2
        clear hT2 hq HFN
        generalize (fullN ts k).map irow = T1 at *
        go_wp2_with (at_builtin; refine wpList_append_row w3 rfl _ _ 29 3 _ 1 8 rfl Try.underlying29 Try.info3 rfl (by decide) w1.heap.size (.slice ao no co) T1 rfl HO3.out [.int .i64 (k : Int)] _ _ rfl rfl rfl rfl HO1.out HC2.out.1 HC2.out.2 S0.out ?_)
        intro v2 w4 O2 B2
        rw [HT.out] at O2
        have U4 : Hid (Below w1.heap.size w1 w4) := U3.out.trans B2
        obtain ⟨a3, n3, c3, rfl, O3⟩ := rows_shape O2
        clear O2 B2 HO3 HT HC2
        go_wp2_with fail
        exact ⟨⟨k + 1, a3, n3, c3, by omega, by go_num, rfl, by rw [HT2.out]; exact O3, U4⟩, by simp [intOf]; omega⟩
    · have hlt' : ¬ (k : Int) < 3 := by omega
      obtain rfl : k = 3 := by omega
      rw [fullN_three] at HO
      go_wp2_with fail
      refine HP.out _ _ ?_
      unfold FullE
      rw [if_pos HC0.out]
      exact ⟨ao, no, co, rfl, HO.out.mono U1.out.size, up_trans U1.out HB.out⟩
end Go.Proofs.Ytjdibpmckeifhaa
