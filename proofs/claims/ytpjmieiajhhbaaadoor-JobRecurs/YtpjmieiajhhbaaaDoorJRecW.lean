/- The statement on a rule that comes again. -/
import Derived.Test.YtpjmieiajhhbaaaDoorJPj
namespace Go.Proofs.YtpjmieiajhhbaaaDoor
open Go.RowKit
set_option linter.unusedVariables false
set_option linter.unusedSimpArgs false


set_option maxHeartbeats 8000000 in
set_option maxRecDepth 20000 in
theorem recurs_walk (l : List Int) (hl : TxtOk l) (b c n now : Int) (w : World) (hp : Pj w) : Calls Tryd.prog 8 #[.string (strOfNums l), limV b c n, .int .i64 now] w fun e w' => e = .returned (.bool true) ∧ Below w.heap.size w w' := by
  have HA := hid (alive_any w hp)
  have HP := hid (parseR_any l hl.1 hl.2)
  have HB := hid (checkB_any b c n)
  obtain ⟨q, e1, g0, g1⟩ : ∃ q, Int.tmod now 1000000000 = q ∧ -1000000000 < q ∧ q < 1000000000 := ⟨_, rfl, Int.lt_tmod_of_pos now (by omega), Int.tmod_lt_of_pos now (by omega)⟩
  obtain ⟨k, e2, k0, k1⟩ : ∃ k, (q + 1000000000) % 1000000000 = k ∧ 0 ≤ k ∧ k < 1000000000 := ⟨_, rfl, by omega, by omega⟩
  have HQ := hid (hp.check ⟨1, [], l, [], 1, 0, 0, 0, 0, 0⟩ ⟨txt_none, hl, txt_none⟩)
  have HN := hid (nextF_any (parseR l).1 (parse_ok l) k)
  have HF := hid (hp.finish (rcJ l n k) ⟨txt_none, hl, txt_none⟩ k)
  have HL := hid (hp.fail (rcJ l n k) ⟨txt_none, hl, txt_none⟩ b c n k)
  have sz := strOfNums_size l
  unfold retR at HP
  have HR : ∃ x0 x1 x2 x3 x4 : Int, ∃ x5 x6 : Bool, ruV (parseR l).1 = .agg #[.int .u64 x0, .int .u64 x1, .int .u64 x2, .int .u64 x3, .int .u64 x4, .bool x5, .bool x6] := ⟨_, _, _, _, _, _, _, rfl⟩
  obtain ⟨r0, r1, r2, r3, r4, r5, r6, HR⟩ := HR
  rw [HR] at HP HN
  clear HR
  clear hp
  have L0 := hid (blk_new w (.cells #[.int .i64 b, .int .i64 c, .int .i64 n] 40))
  have u0 := hid (up_alloc w (.cells #[.int .i64 b, .int .i64 c, .int .i64 n] 40))
  unfold limV at *
  unfold jobV at HQ
  dsimp only at HQ
  rw [show strOfNums [] = { data := #[] } from rfl] at HQ
  by_cases c0 : l = []
  · have pn : (parseR l).2 ≠ 0 := by rw [c0]; exact parse_none
    have n1 : ((parseR l).2 != 0) = true := by simpa using pn
    generalize (parseR l).2 = pe at *
    rw [c0, show strOfNums [] = { data := #[] } from rfl] at HP ⊢
    clear HQ HN HF HL HB sz hl pn c0
    go_enter Tryd.func8, Tryd.ntmps8
    have z0 := blk_cell L0.out 0 _ rfl
    have z1 := blk_cell L0.out 1 _ rfl
    have z2 := blk_cell L0.out 2 _ rfl
    go_wp2_with fail
    refine (HA.out _ u0.out).mono ?_
    rintro e w1 ⟨rfl, hb⟩
    have L1 := hid (blk_up L0.out hb)
    have u1 := hid (up_trans u0.out hb)
    clear hb L0 u0 z0 z1 z2
    have z0 := blk_cell L1.out 0 _ rfl
    have z1 := blk_cell L1.out 1 _ rfl
    have z2 := blk_cell L1.out 2 _ rfl
    go_wp2_with fail
    refine (HP.out _).mono ?_
    rintro e w2 ⟨rfl, hb⟩
    have L2 := hid (blk_up (blk_up L1.out hb) (up_alloc w2 (.cells #[.int .u64 r0, .int .u64 r1, .int .u64 r2, .int .u64 r3, .int .u64 r4, .bool r5, .bool r6] 58)))
    have R2 := hid (blk_new w2 (.cells #[.int .u64 r0, .int .u64 r1, .int .u64 r2, .int .u64 r3, .int .u64 r4, .bool r5, .bool r6] 58))
    have u2 := hid (up_al (up_trans u1.out hb) (.cells #[.int .u64 r0, .int .u64 r1, .int .u64 r2, .int .u64 r3, .int .u64 r4, .bool r5, .bool r6] 58))
    clear hb L1 u1 z0 z1 z2
    have z0 := blk_cell L2.out 0 _ rfl
    have z1 := blk_cell L2.out 1 _ rfl
    have z2 := blk_cell L2.out 2 _ rfl
    have y0 := blk_cell R2.out 0 _ rfl
    have y1 := blk_cell R2.out 1 _ rfl
    have y2 := blk_cell R2.out 2 _ rfl
    have y3 := blk_cell R2.out 3 _ rfl
    have y4 := blk_cell R2.out 4 _ rfl
    have y5 := blk_cell R2.out 5 _ rfl
    have y6 := blk_cell R2.out 6 _ rfl
    go_wp2_with fail
    go_ret
    exact ⟨by first | rfl | (simp; done), u2.out⟩
  have ne : (strOfNums l).toList ≠ [] := by
    intro h
    rw [ByteArray.toList_eq] at h
    have h2 : (strOfNums l).data.toList.length = 0 := by rw [h]; rfl
    rw [Array.length_toList] at h2
    have h3 : (strOfNums l).size = 0 := h2
    rw [sz] at h3
    exact c0 (List.length_eq_zero_iff.1 h3)
  by_cases c1 : (parseR l).2 ≠ 0
  · rw [rc_not c0 (.inl c1)] at HQ
    have n1 : ((parseR l).2 != 0) = true := by simpa using c1
    generalize strOfNums l = s at *
    generalize (parseR l).2 = pe at *
    clear hl
    have n2 : (s.toList == []) = false := by simpa using ne
    have n3 : ¬ s.toList = [] := ne
    clear HN HF HL HB sz c0 c1 ne
    go_enter Tryd.func8, Tryd.ntmps8
    have z0 := blk_cell L0.out 0 _ rfl
    have z1 := blk_cell L0.out 1 _ rfl
    have z2 := blk_cell L0.out 2 _ rfl
    go_wp2_with fail
    refine (HA.out _ u0.out).mono ?_
    rintro e w1 ⟨rfl, hb⟩
    have L1 := hid (blk_up L0.out hb)
    have u1 := hid (up_trans u0.out hb)
    clear hb L0 u0 z0 z1 z2
    have z0 := blk_cell L1.out 0 _ rfl
    have z1 := blk_cell L1.out 1 _ rfl
    have z2 := blk_cell L1.out 2 _ rfl
    go_wp2_with fail
    refine (HP.out _).mono ?_
    rintro e w2 ⟨rfl, hb⟩
    have L2 := hid (blk_up (blk_up L1.out hb) (up_alloc w2 (.cells #[.int .u64 r0, .int .u64 r1, .int .u64 r2, .int .u64 r3, .int .u64 r4, .bool r5, .bool r6] 58)))
    have R2 := hid (blk_new w2 (.cells #[.int .u64 r0, .int .u64 r1, .int .u64 r2, .int .u64 r3, .int .u64 r4, .bool r5, .bool r6] 58))
    have u2 := hid (up_al (up_trans u1.out hb) (.cells #[.int .u64 r0, .int .u64 r1, .int .u64 r2, .int .u64 r3, .int .u64 r4, .bool r5, .bool r6] 58))
    clear hb L1 u1 z0 z1 z2
    have z0 := blk_cell L2.out 0 _ rfl
    have z1 := blk_cell L2.out 1 _ rfl
    have z2 := blk_cell L2.out 2 _ rfl
    have y0 := blk_cell R2.out 0 _ rfl
    have y1 := blk_cell R2.out 1 _ rfl
    have y2 := blk_cell R2.out 2 _ rfl
    have y3 := blk_cell R2.out 3 _ rfl
    have y4 := blk_cell R2.out 4 _ rfl
    have y5 := blk_cell R2.out 5 _ rfl
    have y6 := blk_cell R2.out 6 _ rfl
    go_wp2_with fail
    refine (HQ.out _ u2.out).mono ?_
    rintro e w3 ⟨rfl, hb⟩
    have L3 := hid (blk_up L2.out hb)
    have R3 := hid (blk_up R2.out hb)
    have u3 := hid (up_trans u2.out hb)
    clear hb L2 R2 u2 z0 z1 z2 y0 y1 y2 y3 y4 y5 y6
    have z0 := blk_cell L3.out 0 _ rfl
    have z1 := blk_cell L3.out 1 _ rfl
    have z2 := blk_cell L3.out 2 _ rfl
    go_wp2_with fail
    refine (num_any _ _).mono ?_
    rintro e w9 ⟨rfl, rfl⟩
    go_wp2_with fail
    go_ret
    exact ⟨by first | rfl | (simp; done), u3.out⟩
  replace c1 : (parseR l).2 = 0 := Classical.not_not.1 c1
  by_cases c2 : LimOk b c n
  case neg =>
    rw [show chkP b c n = 4 from if_neg c2] at HB
    rcases chkJ_two ⟨1, [], l, [], 1, 0, 0, 0, 0, 0⟩ with hq | hq
    · rw [hq] at HQ
      rw [c1] at HP
      generalize strOfNums l = s at *
      clear hl
      have n2 : (s.toList == []) = false := by simpa using ne
      have n3 : ¬ s.toList = [] := ne
      clear HN HF HL sz c0 c1 c2 ne hq
      go_enter Tryd.func8, Tryd.ntmps8
      have z0 := blk_cell L0.out 0 _ rfl
      have z1 := blk_cell L0.out 1 _ rfl
      have z2 := blk_cell L0.out 2 _ rfl
      go_wp2_with fail
      refine (HA.out _ u0.out).mono ?_
      rintro e w1 ⟨rfl, hb⟩
      have L1 := hid (blk_up L0.out hb)
      have u1 := hid (up_trans u0.out hb)
      clear hb L0 u0 z0 z1 z2
      have z0 := blk_cell L1.out 0 _ rfl
      have z1 := blk_cell L1.out 1 _ rfl
      have z2 := blk_cell L1.out 2 _ rfl
      go_wp2_with fail
      refine (HP.out _).mono ?_
      rintro e w2 ⟨rfl, hb⟩
      have L2 := hid (blk_up (blk_up L1.out hb) (up_alloc w2 (.cells #[.int .u64 r0, .int .u64 r1, .int .u64 r2, .int .u64 r3, .int .u64 r4, .bool r5, .bool r6] 58)))
      have R2 := hid (blk_new w2 (.cells #[.int .u64 r0, .int .u64 r1, .int .u64 r2, .int .u64 r3, .int .u64 r4, .bool r5, .bool r6] 58))
      have u2 := hid (up_al (up_trans u1.out hb) (.cells #[.int .u64 r0, .int .u64 r1, .int .u64 r2, .int .u64 r3, .int .u64 r4, .bool r5, .bool r6] 58))
      clear hb L1 u1 z0 z1 z2
      have z0 := blk_cell L2.out 0 _ rfl
      have z1 := blk_cell L2.out 1 _ rfl
      have z2 := blk_cell L2.out 2 _ rfl
      have y0 := blk_cell R2.out 0 _ rfl
      have y1 := blk_cell R2.out 1 _ rfl
      have y2 := blk_cell R2.out 2 _ rfl
      have y3 := blk_cell R2.out 3 _ rfl
      have y4 := blk_cell R2.out 4 _ rfl
      have y5 := blk_cell R2.out 5 _ rfl
      have y6 := blk_cell R2.out 6 _ rfl
      go_wp2_with fail
      refine (HB.out _).mono ?_
      rintro e w3 ⟨rfl, hb⟩
      have L3 := hid (blk_up L2.out hb)
      have R3 := hid (blk_up R2.out hb)
      have u3 := hid (up_trans u2.out hb)
      clear hb L2 R2 u2 z0 z1 z2 y0 y1 y2 y3 y4 y5 y6
      have z0 := blk_cell L3.out 0 _ rfl
      have z1 := blk_cell L3.out 1 _ rfl
      have z2 := blk_cell L3.out 2 _ rfl
      have y0 := blk_cell R3.out 0 _ rfl
      have y1 := blk_cell R3.out 1 _ rfl
      have y2 := blk_cell R3.out 2 _ rfl
      have y3 := blk_cell R3.out 3 _ rfl
      have y4 := blk_cell R3.out 4 _ rfl
      have y5 := blk_cell R3.out 5 _ rfl
      have y6 := blk_cell R3.out 6 _ rfl
      go_wp2_with fail
      refine (HQ.out _ u3.out).mono ?_
      rintro e w4 ⟨rfl, hb⟩
      have L4 := hid (blk_up L3.out hb)
      have R4 := hid (blk_up R3.out hb)
      have u4 := hid (up_trans u3.out hb)
      clear hb L3 R3 u3 z0 z1 z2 y0 y1 y2 y3 y4 y5 y6
      have z0 := blk_cell L4.out 0 _ rfl
      have z1 := blk_cell L4.out 1 _ rfl
      have z2 := blk_cell L4.out 2 _ rfl
      go_wp2_with fail
      refine (num_any _ _).mono ?_
      rintro e w9 ⟨rfl, rfl⟩
      go_wp2_with fail
      refine (HB.out _).mono ?_
      rintro e w5 ⟨rfl, hb⟩
      have u5 := hid (up_trans u4.out hb)
      go_wp2_with fail
      go_ret
      exact ⟨by first | rfl | (simp; done), u5.out⟩
    · rw [hq] at HQ
      rw [c1] at HP
      generalize strOfNums l = s at *
      clear hl
      have n2 : (s.toList == []) = false := by simpa using ne
      have n3 : ¬ s.toList = [] := ne
      clear HN HF HL sz c0 c1 c2 ne hq
      go_enter Tryd.func8, Tryd.ntmps8
      have z0 := blk_cell L0.out 0 _ rfl
      have z1 := blk_cell L0.out 1 _ rfl
      have z2 := blk_cell L0.out 2 _ rfl
      go_wp2_with fail
      refine (HA.out _ u0.out).mono ?_
      rintro e w1 ⟨rfl, hb⟩
      have L1 := hid (blk_up L0.out hb)
      have u1 := hid (up_trans u0.out hb)
      clear hb L0 u0 z0 z1 z2
      have z0 := blk_cell L1.out 0 _ rfl
      have z1 := blk_cell L1.out 1 _ rfl
      have z2 := blk_cell L1.out 2 _ rfl
      go_wp2_with fail
      refine (HP.out _).mono ?_
      rintro e w2 ⟨rfl, hb⟩
      have L2 := hid (blk_up (blk_up L1.out hb) (up_alloc w2 (.cells #[.int .u64 r0, .int .u64 r1, .int .u64 r2, .int .u64 r3, .int .u64 r4, .bool r5, .bool r6] 58)))
      have R2 := hid (blk_new w2 (.cells #[.int .u64 r0, .int .u64 r1, .int .u64 r2, .int .u64 r3, .int .u64 r4, .bool r5, .bool r6] 58))
      have u2 := hid (up_al (up_trans u1.out hb) (.cells #[.int .u64 r0, .int .u64 r1, .int .u64 r2, .int .u64 r3, .int .u64 r4, .bool r5, .bool r6] 58))
      clear hb L1 u1 z0 z1 z2
      have z0 := blk_cell L2.out 0 _ rfl
      have z1 := blk_cell L2.out 1 _ rfl
      have z2 := blk_cell L2.out 2 _ rfl
      have y0 := blk_cell R2.out 0 _ rfl
      have y1 := blk_cell R2.out 1 _ rfl
      have y2 := blk_cell R2.out 2 _ rfl
      have y3 := blk_cell R2.out 3 _ rfl
      have y4 := blk_cell R2.out 4 _ rfl
      have y5 := blk_cell R2.out 5 _ rfl
      have y6 := blk_cell R2.out 6 _ rfl
      go_wp2_with fail
      refine (HB.out _).mono ?_
      rintro e w3 ⟨rfl, hb⟩
      have L3 := hid (blk_up L2.out hb)
      have R3 := hid (blk_up R2.out hb)
      have u3 := hid (up_trans u2.out hb)
      clear hb L2 R2 u2 z0 z1 z2 y0 y1 y2 y3 y4 y5 y6
      have z0 := blk_cell L3.out 0 _ rfl
      have z1 := blk_cell L3.out 1 _ rfl
      have z2 := blk_cell L3.out 2 _ rfl
      have y0 := blk_cell R3.out 0 _ rfl
      have y1 := blk_cell R3.out 1 _ rfl
      have y2 := blk_cell R3.out 2 _ rfl
      have y3 := blk_cell R3.out 3 _ rfl
      have y4 := blk_cell R3.out 4 _ rfl
      have y5 := blk_cell R3.out 5 _ rfl
      have y6 := blk_cell R3.out 6 _ rfl
      go_wp2_with fail
      refine (HQ.out _ u3.out).mono ?_
      rintro e w4 ⟨rfl, hb⟩
      have L4 := hid (blk_up L3.out hb)
      have R4 := hid (blk_up R3.out hb)
      have u4 := hid (up_trans u3.out hb)
      clear hb L3 R3 u3 z0 z1 z2 y0 y1 y2 y3 y4 y5 y6
      have z0 := blk_cell L4.out 0 _ rfl
      have z1 := blk_cell L4.out 1 _ rfl
      have z2 := blk_cell L4.out 2 _ rfl
      go_wp2_with fail
      refine (num_any _ _).mono ?_
      rintro e w9 ⟨rfl, rfl⟩
      go_wp2_with fail
      go_ret
      exact ⟨by first | rfl | (simp; done), u4.out⟩
  rw [show chkP b c n = 0 from if_pos c2] at HB
  by_cases c3 : 200 < l.length
  · rw [rc_not c0 (.inr c3)] at HQ
    have n4 : 200 < ((strOfNums l).size : Int) := by rw [sz]; omega
    rw [c1] at HP
    generalize strOfNums l = s at *
    clear hl
    have n2 : (s.toList == []) = false := by simpa using ne
    have n3 : ¬ s.toList = [] := ne
    clear HN HF HL sz c0 c1 c2 c3 ne
    go_enter Tryd.func8, Tryd.ntmps8
    have z0 := blk_cell L0.out 0 _ rfl
    have z1 := blk_cell L0.out 1 _ rfl
    have z2 := blk_cell L0.out 2 _ rfl
    go_wp2_with fail
    refine (HA.out _ u0.out).mono ?_
    rintro e w1 ⟨rfl, hb⟩
    have L1 := hid (blk_up L0.out hb)
    have u1 := hid (up_trans u0.out hb)
    clear hb L0 u0 z0 z1 z2
    have z0 := blk_cell L1.out 0 _ rfl
    have z1 := blk_cell L1.out 1 _ rfl
    have z2 := blk_cell L1.out 2 _ rfl
    go_wp2_with fail
    refine (HP.out _).mono ?_
    rintro e w2 ⟨rfl, hb⟩
    have L2 := hid (blk_up (blk_up L1.out hb) (up_alloc w2 (.cells #[.int .u64 r0, .int .u64 r1, .int .u64 r2, .int .u64 r3, .int .u64 r4, .bool r5, .bool r6] 58)))
    have R2 := hid (blk_new w2 (.cells #[.int .u64 r0, .int .u64 r1, .int .u64 r2, .int .u64 r3, .int .u64 r4, .bool r5, .bool r6] 58))
    have u2 := hid (up_al (up_trans u1.out hb) (.cells #[.int .u64 r0, .int .u64 r1, .int .u64 r2, .int .u64 r3, .int .u64 r4, .bool r5, .bool r6] 58))
    clear hb L1 u1 z0 z1 z2
    have z0 := blk_cell L2.out 0 _ rfl
    have z1 := blk_cell L2.out 1 _ rfl
    have z2 := blk_cell L2.out 2 _ rfl
    have y0 := blk_cell R2.out 0 _ rfl
    have y1 := blk_cell R2.out 1 _ rfl
    have y2 := blk_cell R2.out 2 _ rfl
    have y3 := blk_cell R2.out 3 _ rfl
    have y4 := blk_cell R2.out 4 _ rfl
    have y5 := blk_cell R2.out 5 _ rfl
    have y6 := blk_cell R2.out 6 _ rfl
    go_wp2_with fail
    refine (HB.out _).mono ?_
    rintro e w3 ⟨rfl, hb⟩
    have L3 := hid (blk_up L2.out hb)
    have R3 := hid (blk_up R2.out hb)
    have u3 := hid (up_trans u2.out hb)
    clear hb L2 R2 u2 z0 z1 z2 y0 y1 y2 y3 y4 y5 y6
    have z0 := blk_cell L3.out 0 _ rfl
    have z1 := blk_cell L3.out 1 _ rfl
    have z2 := blk_cell L3.out 2 _ rfl
    have y0 := blk_cell R3.out 0 _ rfl
    have y1 := blk_cell R3.out 1 _ rfl
    have y2 := blk_cell R3.out 2 _ rfl
    have y3 := blk_cell R3.out 3 _ rfl
    have y4 := blk_cell R3.out 4 _ rfl
    have y5 := blk_cell R3.out 5 _ rfl
    have y6 := blk_cell R3.out 6 _ rfl
    go_wp2_with fail
    refine (HQ.out _ u3.out).mono ?_
    rintro e w4 ⟨rfl, hb⟩
    have L4 := hid (blk_up L3.out hb)
    have R4 := hid (blk_up R3.out hb)
    have u4 := hid (up_trans u3.out hb)
    clear hb L3 R3 u3 z0 z1 z2 y0 y1 y2 y3 y4 y5 y6
    have z0 := blk_cell L4.out 0 _ rfl
    have z1 := blk_cell L4.out 1 _ rfl
    have z2 := blk_cell L4.out 2 _ rfl
    go_wp2_with fail
    refine (num_any _ _).mono ?_
    rintro e w9 ⟨rfl, rfl⟩
    go_wp2_with fail
    go_ret
    exact ⟨by first | rfl | (simp; done), u4.out⟩
  have n4 : ¬ 200 < ((strOfNums l).size : Int) := by rw [sz]; omega
  have nn : 1 ≤ n ∧ n ≤ 16 := c2.2.2.2.2
  rw [rc_finish c1 (by omega) nn ⟨k0, by omega⟩] at HF
  rw [rc_fail c2 c1 (by omega) ⟨k0, by omega⟩] at HL
  generalize (nextP (parseR l).1 k).1 = t at *
  generalize (nextP (parseR l).1 k).2.2 = nc at *
  generalize (nextP (parseR l).1 k).2.1 = is at *
  rw [c1] at HP
  unfold rcJ rcW at HF HL
  cases is
  · rw [if_neg (by decide)] at HF HL
    unfold jobV at HF HL
    unfold jb0 at HF
    dsimp only at HF HL
    rw [show strOfNums [] = { data := #[] } from rfl] at HF HL
    generalize strOfNums l = s at *
    clear hl
    have n2 : (s.toList == []) = false := by simpa using ne
    have n3 : ¬ s.toList = [] := ne
    clear HQ sz c0 c1 c2 c3 ne
    go_enter Tryd.func8, Tryd.ntmps8
    have z0 := blk_cell L0.out 0 _ rfl
    have z1 := blk_cell L0.out 1 _ rfl
    have z2 := blk_cell L0.out 2 _ rfl
    go_wp2_with fail
    refine (HA.out _ u0.out).mono ?_
    rintro e w1 ⟨rfl, hb⟩
    have L1 := hid (blk_up L0.out hb)
    have u1 := hid (up_trans u0.out hb)
    clear hb L0 u0 z0 z1 z2
    have z0 := blk_cell L1.out 0 _ rfl
    have z1 := blk_cell L1.out 1 _ rfl
    have z2 := blk_cell L1.out 2 _ rfl
    go_wp2_with fail
    refine (HP.out _).mono ?_
    rintro e w2 ⟨rfl, hb⟩
    have L2 := hid (blk_up (blk_up L1.out hb) (up_alloc w2 (.cells #[.int .u64 r0, .int .u64 r1, .int .u64 r2, .int .u64 r3, .int .u64 r4, .bool r5, .bool r6] 58)))
    have R2 := hid (blk_new w2 (.cells #[.int .u64 r0, .int .u64 r1, .int .u64 r2, .int .u64 r3, .int .u64 r4, .bool r5, .bool r6] 58))
    have u2 := hid (up_al (up_trans u1.out hb) (.cells #[.int .u64 r0, .int .u64 r1, .int .u64 r2, .int .u64 r3, .int .u64 r4, .bool r5, .bool r6] 58))
    clear hb L1 u1 z0 z1 z2
    have z0 := blk_cell L2.out 0 _ rfl
    have z1 := blk_cell L2.out 1 _ rfl
    have z2 := blk_cell L2.out 2 _ rfl
    have y0 := blk_cell R2.out 0 _ rfl
    have y1 := blk_cell R2.out 1 _ rfl
    have y2 := blk_cell R2.out 2 _ rfl
    have y3 := blk_cell R2.out 3 _ rfl
    have y4 := blk_cell R2.out 4 _ rfl
    have y5 := blk_cell R2.out 5 _ rfl
    have y6 := blk_cell R2.out 6 _ rfl
    go_wp2_with fail
    refine (HB.out _).mono ?_
    rintro e w3 ⟨rfl, hb⟩
    have L3 := hid (blk_up L2.out hb)
    have R3 := hid (blk_up R2.out hb)
    have u3 := hid (up_trans u2.out hb)
    clear hb L2 R2 u2 z0 z1 z2 y0 y1 y2 y3 y4 y5 y6
    have z0 := blk_cell L3.out 0 _ rfl
    have z1 := blk_cell L3.out 1 _ rfl
    have z2 := blk_cell L3.out 2 _ rfl
    have y0 := blk_cell R3.out 0 _ rfl
    have y1 := blk_cell R3.out 1 _ rfl
    have y2 := blk_cell R3.out 2 _ rfl
    have y3 := blk_cell R3.out 3 _ rfl
    have y4 := blk_cell R3.out 4 _ rfl
    have y5 := blk_cell R3.out 5 _ rfl
    have y6 := blk_cell R3.out 6 _ rfl
    go_wp2_with fail
    refine (HN.out _).mono ?_
    rintro e w4 ⟨rfl, hb⟩
    have L4 := hid (blk_up (blk_up L3.out hb) (up_alloc w4 (.cells #[.int .i64 1, .string { data := #[] }, .string s, .string { data := #[] }, .int .i64 2, .int .i64 0, .int .i64 (n - 1), .int .i64 1, .int .i64 1, .int .i64 k] 27)))
    have X4 := hid (blk_new w4 (.cells #[.int .i64 1, .string { data := #[] }, .string s, .string { data := #[] }, .int .i64 2, .int .i64 0, .int .i64 (n - 1), .int .i64 1, .int .i64 1, .int .i64 k] 27))
    have u4 := hid (up_al (up_trans u3.out hb) (.cells #[.int .i64 1, .string { data := #[] }, .string s, .string { data := #[] }, .int .i64 2, .int .i64 0, .int .i64 (n - 1), .int .i64 1, .int .i64 1, .int .i64 k] 27))
    have L3b := hid (blk_up L3.out hb)
    clear hb L3 R3 u3 z0 z1 z2 y0 y1 y2 y3 y4 y5 y6
    have z0 := blk_cell L4.out 0 _ rfl
    have z1 := blk_cell L4.out 1 _ rfl
    have z2 := blk_cell L4.out 2 _ rfl
    have v0 := blk_cell L3b.out 0 _ rfl
    have v1 := blk_cell L3b.out 1 _ rfl
    have v2 := blk_cell L3b.out 2 _ rfl
    have x0 := blk_cell X4.out 0 _ rfl
    have x1 := blk_cell X4.out 1 _ rfl
    have x2 := blk_cell X4.out 2 _ rfl
    have x3 := blk_cell X4.out 3 _ rfl
    have x4 := blk_cell X4.out 4 _ rfl
    have x5 := blk_cell X4.out 5 _ rfl
    have x6 := blk_cell X4.out 6 _ rfl
    have x7 := blk_cell X4.out 7 _ rfl
    have x8 := blk_cell X4.out 8 _ rfl
    have x9 := blk_cell X4.out 9 _ rfl
    go_wp2_with fail
    refine (HF.out _ u4.out).mono ?_
    rintro e w5 ⟨rfl, hb⟩
    have L5 := hid (blk_up (blk_up L4.out hb) (up_alloc w5 (.cells #[.int .i64 0, .string { data := #[] }, .string { data := #[] }, .string { data := #[] }, .int .i64 0, .int .i64 0, .int .i64 0, .int .i64 0, .int .i64 0, .int .i64 0] 27)))
    have X5 := hid (blk_up (blk_up X4.out hb) (up_alloc w5 (.cells #[.int .i64 0, .string { data := #[] }, .string { data := #[] }, .string { data := #[] }, .int .i64 0, .int .i64 0, .int .i64 0, .int .i64 0, .int .i64 0, .int .i64 0] 27)))
    have A5 := hid (blk_new w5 (.cells #[.int .i64 0, .string { data := #[] }, .string { data := #[] }, .string { data := #[] }, .int .i64 0, .int .i64 0, .int .i64 0, .int .i64 0, .int .i64 0, .int .i64 0] 27))
    have u5 := hid (up_al (up_trans u4.out hb) (.cells #[.int .i64 0, .string { data := #[] }, .string { data := #[] }, .string { data := #[] }, .int .i64 0, .int .i64 0, .int .i64 0, .int .i64 0, .int .i64 0, .int .i64 0] 27))
    clear hb L4 X4 L3b u4 z0 z1 z2 v0 v1 v2 x0 x1 x2 x3 x4 x5 x6 x7 x8 x9
    have z0 := blk_cell L5.out 0 _ rfl
    have z1 := blk_cell L5.out 1 _ rfl
    have z2 := blk_cell L5.out 2 _ rfl
    have x0 := blk_cell X5.out 0 _ rfl
    have x1 := blk_cell X5.out 1 _ rfl
    have x2 := blk_cell X5.out 2 _ rfl
    have x3 := blk_cell X5.out 3 _ rfl
    have x4 := blk_cell X5.out 4 _ rfl
    have x5 := blk_cell X5.out 5 _ rfl
    have x6 := blk_cell X5.out 6 _ rfl
    have x7 := blk_cell X5.out 7 _ rfl
    have x8 := blk_cell X5.out 8 _ rfl
    have x9 := blk_cell X5.out 9 _ rfl
    go_wp2_with fail
    refine (HL.out _ u5.out).mono ?_
    rintro e w6 ⟨rfl, hb⟩
    have A6 := hid (blk_up (blk_up A5.out hb) (up_alloc w6 (.cells #[.int .i64 1, .string { data := #[] }, .string { data := #[] }, .string { data := #[] }, .int .i64 3, .int .i64 k, .int .i64 n, .int .i64 0, .int .i64 0, .int .i64 0] 27)))
    have B6 := hid (blk_new w6 (.cells #[.int .i64 1, .string { data := #[] }, .string { data := #[] }, .string { data := #[] }, .int .i64 3, .int .i64 k, .int .i64 n, .int .i64 0, .int .i64 0, .int .i64 0] 27))
    have u6 := hid (up_al (up_trans u5.out hb) (.cells #[.int .i64 1, .string { data := #[] }, .string { data := #[] }, .string { data := #[] }, .int .i64 3, .int .i64 k, .int .i64 n, .int .i64 0, .int .i64 0, .int .i64 0] 27))
    clear hb L5 X5 A5 u5 z0 z1 z2 x0 x1 x2 x3 x4 x5 x6 x7 x8 x9
    have m'0 := blk_cell A6.out 0 _ rfl
    have m'1 := blk_cell A6.out 1 _ rfl
    have m'2 := blk_cell A6.out 2 _ rfl
    have m'3 := blk_cell A6.out 3 _ rfl
    have m'4 := blk_cell A6.out 4 _ rfl
    have m'5 := blk_cell A6.out 5 _ rfl
    have m'6 := blk_cell A6.out 6 _ rfl
    have m'7 := blk_cell A6.out 7 _ rfl
    have m'8 := blk_cell A6.out 8 _ rfl
    have m'9 := blk_cell A6.out 9 _ rfl
    have n'0 := blk_cell B6.out 0 _ rfl
    have n'1 := blk_cell B6.out 1 _ rfl
    have n'2 := blk_cell B6.out 2 _ rfl
    have n'3 := blk_cell B6.out 3 _ rfl
    have n'4 := blk_cell B6.out 4 _ rfl
    have n'5 := blk_cell B6.out 5 _ rfl
    have n'6 := blk_cell B6.out 6 _ rfl
    have n'7 := blk_cell B6.out 7 _ rfl
    have n'8 := blk_cell B6.out 8 _ rfl
    have n'9 := blk_cell B6.out 9 _ rfl
    go_wp2_with fail
    refine (num_any _ _).mono ?_
    rintro e w9 ⟨rfl, rfl⟩
    go_wp2_with fail
    refine (num_any _ _).mono ?_
    rintro e w9 ⟨rfl, rfl⟩
    go_wp2_with fail
    go_ret
    exact ⟨by first | rfl | (simp; done), u6.out⟩
  · rw [if_pos rfl] at HF HL
    unfold jobV at HF HL
    dsimp only at HF HL
    rw [show strOfNums [] = { data := #[] } from rfl] at HF HL
    generalize strOfNums l = s at *
    clear hl
    have n2 : (s.toList == []) = false := by simpa using ne
    have n3 : ¬ s.toList = [] := ne
    clear HQ sz c0 c1 c2 c3 ne
    go_enter Tryd.func8, Tryd.ntmps8
    have z0 := blk_cell L0.out 0 _ rfl
    have z1 := blk_cell L0.out 1 _ rfl
    have z2 := blk_cell L0.out 2 _ rfl
    go_wp2_with fail
    refine (HA.out _ u0.out).mono ?_
    rintro e w1 ⟨rfl, hb⟩
    have L1 := hid (blk_up L0.out hb)
    have u1 := hid (up_trans u0.out hb)
    clear hb L0 u0 z0 z1 z2
    have z0 := blk_cell L1.out 0 _ rfl
    have z1 := blk_cell L1.out 1 _ rfl
    have z2 := blk_cell L1.out 2 _ rfl
    go_wp2_with fail
    refine (HP.out _).mono ?_
    rintro e w2 ⟨rfl, hb⟩
    have L2 := hid (blk_up (blk_up L1.out hb) (up_alloc w2 (.cells #[.int .u64 r0, .int .u64 r1, .int .u64 r2, .int .u64 r3, .int .u64 r4, .bool r5, .bool r6] 58)))
    have R2 := hid (blk_new w2 (.cells #[.int .u64 r0, .int .u64 r1, .int .u64 r2, .int .u64 r3, .int .u64 r4, .bool r5, .bool r6] 58))
    have u2 := hid (up_al (up_trans u1.out hb) (.cells #[.int .u64 r0, .int .u64 r1, .int .u64 r2, .int .u64 r3, .int .u64 r4, .bool r5, .bool r6] 58))
    clear hb L1 u1 z0 z1 z2
    have z0 := blk_cell L2.out 0 _ rfl
    have z1 := blk_cell L2.out 1 _ rfl
    have z2 := blk_cell L2.out 2 _ rfl
    have y0 := blk_cell R2.out 0 _ rfl
    have y1 := blk_cell R2.out 1 _ rfl
    have y2 := blk_cell R2.out 2 _ rfl
    have y3 := blk_cell R2.out 3 _ rfl
    have y4 := blk_cell R2.out 4 _ rfl
    have y5 := blk_cell R2.out 5 _ rfl
    have y6 := blk_cell R2.out 6 _ rfl
    go_wp2_with fail
    refine (HB.out _).mono ?_
    rintro e w3 ⟨rfl, hb⟩
    have L3 := hid (blk_up L2.out hb)
    have R3 := hid (blk_up R2.out hb)
    have u3 := hid (up_trans u2.out hb)
    clear hb L2 R2 u2 z0 z1 z2 y0 y1 y2 y3 y4 y5 y6
    have z0 := blk_cell L3.out 0 _ rfl
    have z1 := blk_cell L3.out 1 _ rfl
    have z2 := blk_cell L3.out 2 _ rfl
    have y0 := blk_cell R3.out 0 _ rfl
    have y1 := blk_cell R3.out 1 _ rfl
    have y2 := blk_cell R3.out 2 _ rfl
    have y3 := blk_cell R3.out 3 _ rfl
    have y4 := blk_cell R3.out 4 _ rfl
    have y5 := blk_cell R3.out 5 _ rfl
    have y6 := blk_cell R3.out 6 _ rfl
    go_wp2_with fail
    refine (HN.out _).mono ?_
    rintro e w4 ⟨rfl, hb⟩
    have L4 := hid (blk_up (blk_up L3.out hb) (up_alloc w4 (.cells #[.int .i64 1, .string { data := #[] }, .string s, .string { data := #[] }, .int .i64 2, .int .i64 0, .int .i64 (n - 1), .int .i64 1, .int .i64 1, .int .i64 k] 27)))
    have X4 := hid (blk_new w4 (.cells #[.int .i64 1, .string { data := #[] }, .string s, .string { data := #[] }, .int .i64 2, .int .i64 0, .int .i64 (n - 1), .int .i64 1, .int .i64 1, .int .i64 k] 27))
    have u4 := hid (up_al (up_trans u3.out hb) (.cells #[.int .i64 1, .string { data := #[] }, .string s, .string { data := #[] }, .int .i64 2, .int .i64 0, .int .i64 (n - 1), .int .i64 1, .int .i64 1, .int .i64 k] 27))
    have L3b := hid (blk_up L3.out hb)
    clear hb L3 R3 u3 z0 z1 z2 y0 y1 y2 y3 y4 y5 y6
    have z0 := blk_cell L4.out 0 _ rfl
    have z1 := blk_cell L4.out 1 _ rfl
    have z2 := blk_cell L4.out 2 _ rfl
    have v0 := blk_cell L3b.out 0 _ rfl
    have v1 := blk_cell L3b.out 1 _ rfl
    have v2 := blk_cell L3b.out 2 _ rfl
    have x0 := blk_cell X4.out 0 _ rfl
    have x1 := blk_cell X4.out 1 _ rfl
    have x2 := blk_cell X4.out 2 _ rfl
    have x3 := blk_cell X4.out 3 _ rfl
    have x4 := blk_cell X4.out 4 _ rfl
    have x5 := blk_cell X4.out 5 _ rfl
    have x6 := blk_cell X4.out 6 _ rfl
    have x7 := blk_cell X4.out 7 _ rfl
    have x8 := blk_cell X4.out 8 _ rfl
    have x9 := blk_cell X4.out 9 _ rfl
    go_wp2_with fail
    refine (HF.out _ u4.out).mono ?_
    rintro e w5 ⟨rfl, hb⟩
    have L5 := hid (blk_up (blk_up L4.out hb) (up_alloc w5 (.cells #[.int .i64 1, .string { data := #[] }, .string s, .string { data := #[] }, .int .i64 1, .int .i64 t, .int .i64 0, .int .i64 0, .int .i64 0, .int .i64 0] 27)))
    have X5 := hid (blk_up (blk_up X4.out hb) (up_alloc w5 (.cells #[.int .i64 1, .string { data := #[] }, .string s, .string { data := #[] }, .int .i64 1, .int .i64 t, .int .i64 0, .int .i64 0, .int .i64 0, .int .i64 0] 27)))
    have A5 := hid (blk_new w5 (.cells #[.int .i64 1, .string { data := #[] }, .string s, .string { data := #[] }, .int .i64 1, .int .i64 t, .int .i64 0, .int .i64 0, .int .i64 0, .int .i64 0] 27))
    have u5 := hid (up_al (up_trans u4.out hb) (.cells #[.int .i64 1, .string { data := #[] }, .string s, .string { data := #[] }, .int .i64 1, .int .i64 t, .int .i64 0, .int .i64 0, .int .i64 0, .int .i64 0] 27))
    clear hb L4 X4 L3b u4 z0 z1 z2 v0 v1 v2 x0 x1 x2 x3 x4 x5 x6 x7 x8 x9
    have z0 := blk_cell L5.out 0 _ rfl
    have z1 := blk_cell L5.out 1 _ rfl
    have z2 := blk_cell L5.out 2 _ rfl
    have x0 := blk_cell X5.out 0 _ rfl
    have x1 := blk_cell X5.out 1 _ rfl
    have x2 := blk_cell X5.out 2 _ rfl
    have x3 := blk_cell X5.out 3 _ rfl
    have x4 := blk_cell X5.out 4 _ rfl
    have x5 := blk_cell X5.out 5 _ rfl
    have x6 := blk_cell X5.out 6 _ rfl
    have x7 := blk_cell X5.out 7 _ rfl
    have x8 := blk_cell X5.out 8 _ rfl
    have x9 := blk_cell X5.out 9 _ rfl
    go_wp2_with fail
    refine (HL.out _ u5.out).mono ?_
    rintro e w6 ⟨rfl, hb⟩
    have A6 := hid (blk_up (blk_up A5.out hb) (up_alloc w6 (.cells #[.int .i64 1, .string { data := #[] }, .string s, .string { data := #[] }, .int .i64 1, .int .i64 t, .int .i64 0, .int .i64 0, .int .i64 0, .int .i64 0] 27)))
    have B6 := hid (blk_new w6 (.cells #[.int .i64 1, .string { data := #[] }, .string s, .string { data := #[] }, .int .i64 1, .int .i64 t, .int .i64 0, .int .i64 0, .int .i64 0, .int .i64 0] 27))
    have u6 := hid (up_al (up_trans u5.out hb) (.cells #[.int .i64 1, .string { data := #[] }, .string s, .string { data := #[] }, .int .i64 1, .int .i64 t, .int .i64 0, .int .i64 0, .int .i64 0, .int .i64 0] 27))
    clear hb L5 X5 A5 u5 z0 z1 z2 x0 x1 x2 x3 x4 x5 x6 x7 x8 x9
    have m'0 := blk_cell A6.out 0 _ rfl
    have m'1 := blk_cell A6.out 1 _ rfl
    have m'2 := blk_cell A6.out 2 _ rfl
    have m'3 := blk_cell A6.out 3 _ rfl
    have m'4 := blk_cell A6.out 4 _ rfl
    have m'5 := blk_cell A6.out 5 _ rfl
    have m'6 := blk_cell A6.out 6 _ rfl
    have m'7 := blk_cell A6.out 7 _ rfl
    have m'8 := blk_cell A6.out 8 _ rfl
    have m'9 := blk_cell A6.out 9 _ rfl
    have n'0 := blk_cell B6.out 0 _ rfl
    have n'1 := blk_cell B6.out 1 _ rfl
    have n'2 := blk_cell B6.out 2 _ rfl
    have n'3 := blk_cell B6.out 3 _ rfl
    have n'4 := blk_cell B6.out 4 _ rfl
    have n'5 := blk_cell B6.out 5 _ rfl
    have n'6 := blk_cell B6.out 6 _ rfl
    have n'7 := blk_cell B6.out 7 _ rfl
    have n'8 := blk_cell B6.out 8 _ rfl
    have n'9 := blk_cell B6.out 9 _ rfl
    go_wp2_with fail
    refine (num_any _ _).mono ?_
    rintro e w9 ⟨rfl, rfl⟩
    go_wp2_with fail
    refine (num_any _ _).mono ?_
    rintro e w9 ⟨rfl, rfl⟩
    go_wp2_with fail
    go_ret
    exact ⟨by first | rfl | (simp; done), u6.out⟩
end Go.Proofs.YtpjmieiajhhbaaaDoor
