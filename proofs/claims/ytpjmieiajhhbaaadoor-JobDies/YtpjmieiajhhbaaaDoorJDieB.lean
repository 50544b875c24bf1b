/- The statement on a job that dies. -/
import Derived.Test.YtpjmieiajhhbaaaDoorJPj
namespace Go.Proofs.YtpjmieiajhhbaaaDoor
open Go.RowKit
set_option linter.unusedVariables false
set_option linter.unusedSimpArgs false


set_option maxHeartbeats 8000000 in
set_option maxRecDepth 20000 in
theorem dies_small (p : List Int) (hl : TxtOk p) (big : ¬ 200 < p.length) (b c n now : Int) (w : World) (hp : Pj w) : Calls Tryd.prog 7 #[limV b c n, .int .i64 now, .string (strOfNums p)] w fun e w' => e = .returned (.bool true) ∧ Below w.heap.size w w' := by
  have HA := hid (alive_any w hp)
  have HB := hid (checkB_any b c n)
  have HX := hid (hp.bound b c n)
  have HD := hid (delayB_any b c n)
  obtain ⟨q, e1, g0, g1⟩ : ∃ q, Int.tmod now 1000000 = q ∧ -1000000 < q ∧ q < 1000000 := ⟨_, rfl, Int.lt_tmod_of_pos now (by omega), Int.tmod_lt_of_pos now (by omega)⟩
  obtain ⟨k, e2, k0, k1⟩ : ∃ k, (q + 1000000) % 1000000 = k ∧ 0 ≤ k ∧ k < 1000000 := ⟨_, rfl, by omega, by omega⟩
  have tk : TxtOk (p.take 200) := ⟨fun x hx => hl.1 x (List.mem_of_mem_take hx), by have := List.length_take_le 200 p; omega⟩
  have t2 : (p.take 200).length ≤ 200 := List.length_take_le 200 p
  have sz := strOfNums_size p
  have x1 : 200 < p.length → (strOfNums p).extract 0 200 = strOfNums (p.take 200) := fun h => cut_head p 200 p.length (by omega) rfl
  have x2 : p.length ≤ 200 → (strOfNums p).extract 0 p.length = strOfNums (p.take 200) ∧ strOfNums (p.take 200) = strOfNums p := fun h => ⟨by rw [cut_head p p.length p.length (by omega) rfl, List.take_of_length_le h, List.take_length], by rw [List.take_of_length_le h]⟩
  have HT : Hid (LimOk b c n → ∀ (d : Int) (j : Nat), 0 ≤ d ∧ d ≤ 32503680000 → (j : Int) < n → ∀ w', Below w.heap.size w w' → Calls Tryd.prog 17 #[jobV (dyJ (p.take 200) 1 d j), .int .i64 1, .int .i64 ((j : Int) + 1), .int .i64 (k + 1)] w' fun e w'' => e = .returned (.tuple #[jobV (heldJ (p.take 200) j k), .int .i64 0]) ∧ Below w'.heap.size w' w'') := fun ok d j hd hj w' hb => by
    have q := hp.lease (dyJ (p.take 200) 1 d j) ⟨txt_none, txt_none, tk⟩ 1 ((j : Int) + 1) (k + 1) w' hb
    rw [dy_lease t2 hd ⟨by omega, by have := ok.2.2.2.2.2; omega⟩ ⟨k0, by omega⟩] at q
    exact q
  have HU1 : Hid (LimOk b c n → ∀ (j : Nat), (j : Int) + 1 < n → ∀ w', Below w.heap.size w w' → Calls Tryd.prog 19 #[jobV (heldJ (p.take 200) j k), limV b c n, .int .i64 k] w' fun e w'' => e = .returned (.tuple #[jobV (dyJ (p.take 200) 1 (k + delN b c j) ((j : Int) + 1)), .int .i64 0]) ∧ Below w'.heap.size w' w'') := fun ok j hj w' hb => by
    have q := hp.fail (heldJ (p.take 200) j k) ⟨txt_none, txt_none, tk⟩ b c n k w' hb
    rw [dy_fail ok t2 ⟨by omega, by omega⟩ ⟨k0, by omega⟩, if_pos hj] at q
    exact q
  have HU2 : Hid (LimOk b c n → ∀ (j : Nat), (j : Int) < n → ¬ (j : Int) + 1 < n → ∀ w', Below w.heap.size w w' → Calls Tryd.prog 19 #[jobV (heldJ (p.take 200) j k), limV b c n, .int .i64 k] w' fun e w'' => e = .returned (.tuple #[jobV (dyJ (p.take 200) 3 k ((j : Int) + 1)), .int .i64 0]) ∧ Below w'.heap.size w' w'') := fun ok j hj hn w' hb => by
    have q := hp.fail (heldJ (p.take 200) j k) ⟨txt_none, txt_none, tk⟩ b c n k w' hb
    rw [dy_fail ok t2 ⟨by omega, hj⟩ ⟨k0, by omega⟩, if_neg hn] at q
    exact q
  unfold jobV dyJ heldJ at HT HU1 HU2
  dsimp only at HT HU1 HU2
  rw [show strOfNums [] = { data := #[] } from rfl] at HT HU1 HU2
  clear hp tk t2 hl
  have L0 := hid (blk_new w (.cells #[.int .i64 b, .int .i64 c, .int .i64 n] 40))
  have u0 := hid (up_alloc w (.cells #[.int .i64 b, .int .i64 c, .int .i64 n] 40))
  unfold limV at *
  by_cases ok : LimOk b c n
  case neg =>
    have hc : chkP b c n = 4 := if_neg ok
    rw [hc] at HB HX
    clear HT HU1 HU2 HD x1 x2 sz ok hc
    go_enter Tryd.func7, Tryd.ntmps7
    have z0 := blk_cell L0.out 0 _ rfl
    have z1 := blk_cell L0.out 1 _ rfl
    have z2 := blk_cell L0.out 2 _ rfl
    go_wp2_with fail
    refine (HA.out _ u0.out).mono ?_
    rintro e w1 ⟨rfl, hb⟩
    have L1 := hid (blk_up L0.out hb)
    have u1 := hid (up_trans u0.out hb)
    clear hb L0 u0 z0 z1 z2
    have z0 := blk_cell L1.out 0 _ rfl
    have z1 := blk_cell L1.out 1 _ rfl
    have z2 := blk_cell L1.out 2 _ rfl
    go_wp2_with fail
    refine (HB.out _).mono ?_
    rintro e w2 ⟨rfl, hb⟩
    have L2 := hid (blk_up L1.out hb)
    have u2 := hid (up_trans u1.out hb)
    clear hb L1 u1 z0 z1 z2
    have z0 := blk_cell L2.out 0 _ rfl
    have z1 := blk_cell L2.out 1 _ rfl
    have z2 := blk_cell L2.out 2 _ rfl
    go_wp2_with fail
    refine (HX.out _ u2.out).mono ?_
    rintro e w3 ⟨rfl, hb⟩
    have u3 := hid (up_trans u2.out hb)
    clear hb
    go_wp2_with fail
    refine (num_any _ _).mono ?_
    rintro e w9 ⟨rfl, rfl⟩
    go_wp2_with fail
    go_ret
    exact ⟨by first | rfl | (simp; done), u3.out⟩
  have hc : chkP b c n = 0 := if_pos ok
  rw [hc] at HB
  replace HT := hid (HT.out ok)
  replace HU1 := hid (HU1.out ok)
  replace HU2 := hid (HU2.out ok)
  have HD2 : Hid (∀ (j : Nat) w', Calls Tryd.prog 25 #[.agg #[.int .i64 b, .int .i64 c, .int .i64 n], .int .i64 (j : Int)] w' fun e w'' => e = .returned (.tuple #[.int .i64 (delN b c j), .int .i64 0]) ∧ Below w'.heap.size w' w'') := fun j w' => by
    have q := HD.out (j : Int) w'
    rw [show delayP b c n (j : Int) = (delN b c j, 0) from if_pos ⟨ok, by omega⟩] at q
    exact q
  have LO := hid ok
  obtain ⟨h1, h2, h3, h4, h5, h6⟩ := ok
  clear HD HX hc
  generalize strOfNums (p.take 200) = x at *
  go_enter Tryd.func7, Tryd.ntmps7
  have z0 := blk_cell L0.out 0 _ rfl
  have z1 := blk_cell L0.out 1 _ rfl
  have z2 := blk_cell L0.out 2 _ rfl
  go_wp2_with fail
  refine (HA.out _ u0.out).mono ?_
  rintro e w1 ⟨rfl, hb⟩
  have L1 := hid (blk_up L0.out hb)
  have u1 := hid (up_trans u0.out hb)
  clear hb L0 u0 z0 z1 z2
  have z0 := blk_cell L1.out 0 _ rfl
  have z1 := blk_cell L1.out 1 _ rfl
  have z2 := blk_cell L1.out 2 _ rfl
  go_wp2_with fail
  refine (HB.out _).mono ?_
  rintro e w2 ⟨rfl, hb⟩
  have L2 := hid (blk_up L1.out hb)
  have u2 := hid (up_trans u1.out hb)
  clear hb L1 u1 z0 z1 z2
  obtain ⟨y1, y3⟩ := x2 (by omega)
  have y2 : ¬ 200 < ((strOfNums p).size : Int) := by rw [sz]; omega
  rw [← sz] at y1
  generalize strOfNums p = s at *
  clear x1 x2 sz
  subst y3
  go_wp2_with fail
  rw [e2]
  clear e1 e2 g0 g1 HA HB
  have J0 := hid (blk_new w2 (.cells #[.int .i64 7, .string { data := #[] }, .string { data := #[] }, .string x, .int .i64 1, .int .i64 0, .int .i64 0, .int .i64 0, .int .i64 0, .int .i64 0] 27))
  have lt : w.heap.size < w2.heap.size := (Array.getElem?_eq_some_iff.1 L2.out).1
  have L3 := hid (blk_up L2.out (up_alloc w2 (.cells #[.int .i64 7, .string { data := #[] }, .string { data := #[] }, .string x, .int .i64 1, .int .i64 0, .int .i64 0, .int .i64 0, .int .i64 0, .int .i64 0] 27)))
  have u3 := hid (up_al u2.out (.cells #[.int .i64 7, .string { data := #[] }, .string { data := #[] }, .string x, .int .i64 1, .int .i64 0, .int .i64 0, .int .i64 0, .int .i64 0, .int .i64 0] 27))
  clear L2 u2
  go_loopw [8] (fun q wr => ∃ j : Nat, ∃ t d : Int, (j : Int) ≤ n ∧ ((j : Int) < n → t = 1) ∧ (0 ≤ d ∧ d ≤ 32503680000) ∧ q = .int .i64 (j : Int) ∧ Hid (wr.heap[w.heap.size]? = some (.cells #[.int .i64 b, .int .i64 c, .int .i64 n] 40)) ∧ Hid (wr.heap[w2.heap.size]? = some (.cells #[.int .i64 7, .string { data := #[] }, .string { data := #[] }, .string x, .int .i64 t, .int .i64 d, .int .i64 (j : Int), .int .i64 0, .int .i64 0, .int .i64 0] 27)) ∧ Hid (Below w.heap.size w wr)) (fun q _ => (n - intOf q).toNat)
  case atStart => exact ⟨0, 1, 0, by omega, fun _ => rfl, ⟨by omega, by omega⟩, rfl, L3, J0, u3⟩
  case round =>
    obtain ⟨j, t, d, hj, ht, hd, rfl, LW, JW, UW⟩ := hrel
    clear L3 J0 u3
    have z0 := blk_cell LW.out 0 _ rfl
    have z1 := blk_cell LW.out 1 _ rfl
    have z2 := blk_cell LW.out 2 _ rfl
    have x0 := blk_cell JW.out 0 _ rfl
    have x1 := blk_cell JW.out 1 _ rfl
    have x2 := blk_cell JW.out 2 _ rfl
    have x3 := blk_cell JW.out 3 _ rfl
    have x4 := blk_cell JW.out 4 _ rfl
    have x5 := blk_cell JW.out 5 _ rfl
    have x6 := blk_cell JW.out 6 _ rfl
    have x7 := blk_cell JW.out 7 _ rfl
    have x8 := blk_cell JW.out 8 _ rfl
    have x9 := blk_cell JW.out 9 _ rfl
    by_cases c1 : (j : Int) < n
    · obtain rfl := ht c1
      clear ht
      have T := hid (HT.out d j hd c1)
      have D := hid (HD2.out j)
      have dl := delN_le LO.out j
      obtain ⟨dd, hdd⟩ : ∃ dd, dd = delN b c j := ⟨_, rfl⟩
      rw [← hdd] at D dl
      clear HT HD2
      by_cases c2 : (j : Int) + 1 < n
      · have V := hid (HU1.out j c2)
        rw [← hdd] at V
        clear hdd HU1 HU2
        have n5 : ((j : Int) == n - 1) = false := by simp; omega
        go_wp2_with fail
        refine (T.out _ UW.out).mono ?_
        rintro e w4 ⟨rfl, hb⟩
        have L4 := hid (blk_up (blk_up LW.out hb) (up_alloc w4 (.cells #[.int .i64 7, .string { data := #[] }, .string { data := #[] }, .string x, .int .i64 2, .int .i64 0, .int .i64 (j : Int), .int .i64 1, .int .i64 ((j : Int) + 1), .int .i64 (k + 1)] 27)))
        have J4 := hid (blk_up (blk_up JW.out hb) (up_alloc w4 (.cells #[.int .i64 7, .string { data := #[] }, .string { data := #[] }, .string x, .int .i64 2, .int .i64 0, .int .i64 (j : Int), .int .i64 1, .int .i64 ((j : Int) + 1), .int .i64 (k + 1)] 27)))
        have H4 := hid (blk_new w4 (.cells #[.int .i64 7, .string { data := #[] }, .string { data := #[] }, .string x, .int .i64 2, .int .i64 0, .int .i64 (j : Int), .int .i64 1, .int .i64 ((j : Int) + 1), .int .i64 (k + 1)] 27))
        have u4 := hid (up_al (up_trans UW.out hb) (.cells #[.int .i64 7, .string { data := #[] }, .string { data := #[] }, .string x, .int .i64 2, .int .i64 0, .int .i64 (j : Int), .int .i64 1, .int .i64 ((j : Int) + 1), .int .i64 (k + 1)] 27))
        clear hb z0 z1 z2 x0 x1 x2 x3 x4 x5 x6 x7 x8 x9
        have z0 := blk_cell L4.out 0 _ rfl
        have z1 := blk_cell L4.out 1 _ rfl
        have z2 := blk_cell L4.out 2 _ rfl
        have m'0 := blk_cell H4.out 0 _ rfl
        have m'1 := blk_cell H4.out 1 _ rfl
        have m'2 := blk_cell H4.out 2 _ rfl
        have m'3 := blk_cell H4.out 3 _ rfl
        have m'4 := blk_cell H4.out 4 _ rfl
        have m'5 := blk_cell H4.out 5 _ rfl
        have m'6 := blk_cell H4.out 6 _ rfl
        have m'7 := blk_cell H4.out 7 _ rfl
        have m'8 := blk_cell H4.out 8 _ rfl
        have m'9 := blk_cell H4.out 9 _ rfl
        go_wp2_with fail
        refine (V.out _ u4.out).mono ?_
        rintro e w5 ⟨rfl, hb⟩
        have L5 := hid (blk_up (blk_up L4.out hb) (up_alloc w5 (.cells #[.int .i64 7, .string { data := #[] }, .string { data := #[] }, .string x, .int .i64 1, .int .i64 (k + dd), .int .i64 ((j : Int) + 1), .int .i64 0, .int .i64 0, .int .i64 0] 27)))
        have J5 := hid (blk_up (blk_up J4.out hb) (up_alloc w5 (.cells #[.int .i64 7, .string { data := #[] }, .string { data := #[] }, .string x, .int .i64 1, .int .i64 (k + dd), .int .i64 ((j : Int) + 1), .int .i64 0, .int .i64 0, .int .i64 0] 27)))
        have M5 := hid (blk_new w5 (.cells #[.int .i64 7, .string { data := #[] }, .string { data := #[] }, .string x, .int .i64 1, .int .i64 (k + dd), .int .i64 ((j : Int) + 1), .int .i64 0, .int .i64 0, .int .i64 0] 27))
        have u5 := hid (up_al (up_trans u4.out hb) (.cells #[.int .i64 7, .string { data := #[] }, .string { data := #[] }, .string x, .int .i64 1, .int .i64 (k + dd), .int .i64 ((j : Int) + 1), .int .i64 0, .int .i64 0, .int .i64 0] 27))
        clear hb z0 z1 z2 m'0 m'1 m'2 m'3 m'4 m'5 m'6 m'7 m'8 m'9
        have z0 := blk_cell L5.out 0 _ rfl
        have z1 := blk_cell L5.out 1 _ rfl
        have z2 := blk_cell L5.out 2 _ rfl
        go_wp2_with fail
        refine (D.out _).mono ?_
        rintro e w6 ⟨rfl, hb⟩
        have L6 := hid (blk_up L5.out hb)
        have J6 := hid (blk_up J5.out hb)
        have M6 := hid (blk_up M5.out hb)
        have u6 := hid (up_trans u5.out hb)
        clear hb z0 z1 z2 L4 J4 H4 u4 L5 J5 M5 u5
        have z0 := blk_cell L6.out 0 _ rfl
        have z1 := blk_cell L6.out 1 _ rfl
        have z2 := blk_cell L6.out 2 _ rfl
        have m'0 := blk_cell M6.out 0 _ rfl
        have m'1 := blk_cell M6.out 1 _ rfl
        have m'2 := blk_cell M6.out 2 _ rfl
        have m'3 := blk_cell M6.out 3 _ rfl
        have m'4 := blk_cell M6.out 4 _ rfl
        have m'5 := blk_cell M6.out 5 _ rfl
        have m'6 := blk_cell M6.out 6 _ rfl
        have m'7 := blk_cell M6.out 7 _ rfl
        have m'8 := blk_cell M6.out 8 _ rfl
        have m'9 := blk_cell M6.out 9 _ rfl
        have n'0 := blk_cell J6.out 0 _ rfl
        have n'1 := blk_cell J6.out 1 _ rfl
        have n'2 := blk_cell J6.out 2 _ rfl
        have n'3 := blk_cell J6.out 3 _ rfl
        have n'4 := blk_cell J6.out 4 _ rfl
        have n'5 := blk_cell J6.out 5 _ rfl
        have n'6 := blk_cell J6.out 6 _ rfl
        have n'7 := blk_cell J6.out 7 _ rfl
        have n'8 := blk_cell J6.out 8 _ rfl
        have n'9 := blk_cell J6.out 9 _ rfl
        have FB := hid (set10_blk J6.out (.int .i64 7) (.string { data := #[] }) (.string { data := #[] }) (.string x) (.int .i64 1) (.int .i64 (k + dd)) (.int .i64 ((j : Int) + 1)) (.int .i64 0) (.int .i64 0) (.int .i64 0))
        have FG := hid (set10_grown w6 w2.heap.size (.int .i64 7) (.string { data := #[] }) (.string { data := #[] }) (.string x) (.int .i64 1) (.int .i64 (k + dd)) (.int .i64 ((j : Int) + 1)) (.int .i64 0) (.int .i64 0) (.int .i64 0))
        have FL := hid (blk_grown L6.out FG.out (by simp; omega))
        have FU := hid (u6.out.grown FG.out u6.out.size (fun k hk => by simp at hk; omega))
        have PK : ((j : Int) + 1 != (j : Int) + 1) = false := by simp
        have PD : (k + dd != k + dd) = false := by simp
        have P3 : (k != k) = false := by simp
        clear T V D
        go_upto_region 13 with fail
        go_cut [109] from 34 to 110 (fun v wx => v = .bool false ∧ w6 = wx)
        case first =>
          clear n'0 n'1 n'2 n'3 n'4 n'5 n'6 n'7 n'8 n'9 m'0 m'1 m'2 m'3 m'7 m'8 m'9 FB FG FL FU L6 J6 M6 u6
          go_wp2_with fail
          refine (num_any _ _).mono ?_
          rintro e w9 ⟨rfl, rfl⟩
          go_wp2_with fail
          refine (num_any _ _).mono ?_
          rintro e w9 ⟨rfl, rfl⟩
          go_wp2_with fail
          go_meet
          exact ⟨rfl, rfl⟩
        case rest =>
        obtain ⟨rfl, rfl⟩ := hcut
        have f'0 := blk_frozen J6.out 0
        have f'1 := blk_frozen J6.out 1
        have f'2 := blk_frozen J6.out 2
        have f'3 := blk_frozen J6.out 3
        have f'4 := blk_frozen J6.out 4
        have f'5 := blk_frozen J6.out 5
        have f'6 := blk_frozen J6.out 6
        have f'7 := blk_frozen J6.out 7
        have f'8 := blk_frozen J6.out 8
        have f'9 := blk_frozen J6.out 9
        go_wp2_with fail
        go_roundw
        case measure => simp [intOf]; omega
        case rel => first | exact ⟨j + 1, 1, k + dd, by omega, fun _ => rfl, by omega, by go_num, FL, FB, FU⟩ | ((repeat apply Exists.intro); exact ⟨⟨j + 1, 1, k + dd, by omega, fun _ => rfl, by omega, by go_num, FL, FB, FU⟩, rfl⟩)
      · have V := hid (HU2.out j c1 (by omega))
        clear hdd HU1 HU2
        have n5 : ((j : Int) == n - 1) = true := by simp; omega
        go_wp2_with fail
        refine (T.out _ UW.out).mono ?_
        rintro e w4 ⟨rfl, hb⟩
        have L4 := hid (blk_up (blk_up LW.out hb) (up_alloc w4 (.cells #[.int .i64 7, .string { data := #[] }, .string { data := #[] }, .string x, .int .i64 2, .int .i64 0, .int .i64 (j : Int), .int .i64 1, .int .i64 ((j : Int) + 1), .int .i64 (k + 1)] 27)))
        have J4 := hid (blk_up (blk_up JW.out hb) (up_alloc w4 (.cells #[.int .i64 7, .string { data := #[] }, .string { data := #[] }, .string x, .int .i64 2, .int .i64 0, .int .i64 (j : Int), .int .i64 1, .int .i64 ((j : Int) + 1), .int .i64 (k + 1)] 27)))
        have H4 := hid (blk_new w4 (.cells #[.int .i64 7, .string { data := #[] }, .string { data := #[] }, .string x, .int .i64 2, .int .i64 0, .int .i64 (j : Int), .int .i64 1, .int .i64 ((j : Int) + 1), .int .i64 (k + 1)] 27))
        have u4 := hid (up_al (up_trans UW.out hb) (.cells #[.int .i64 7, .string { data := #[] }, .string { data := #[] }, .string x, .int .i64 2, .int .i64 0, .int .i64 (j : Int), .int .i64 1, .int .i64 ((j : Int) + 1), .int .i64 (k + 1)] 27))
        clear hb z0 z1 z2 x0 x1 x2 x3 x4 x5 x6 x7 x8 x9
        have z0 := blk_cell L4.out 0 _ rfl
        have z1 := blk_cell L4.out 1 _ rfl
        have z2 := blk_cell L4.out 2 _ rfl
        have m'0 := blk_cell H4.out 0 _ rfl
        have m'1 := blk_cell H4.out 1 _ rfl
        have m'2 := blk_cell H4.out 2 _ rfl
        have m'3 := blk_cell H4.out 3 _ rfl
        have m'4 := blk_cell H4.out 4 _ rfl
        have m'5 := blk_cell H4.out 5 _ rfl
        have m'6 := blk_cell H4.out 6 _ rfl
        have m'7 := blk_cell H4.out 7 _ rfl
        have m'8 := blk_cell H4.out 8 _ rfl
        have m'9 := blk_cell H4.out 9 _ rfl
        go_wp2_with fail
        refine (V.out _ u4.out).mono ?_
        rintro e w5 ⟨rfl, hb⟩
        have L5 := hid (blk_up (blk_up L4.out hb) (up_alloc w5 (.cells #[.int .i64 7, .string { data := #[] }, .string { data := #[] }, .string x, .int .i64 3, .int .i64 k, .int .i64 ((j : Int) + 1), .int .i64 0, .int .i64 0, .int .i64 0] 27)))
        have J5 := hid (blk_up (blk_up J4.out hb) (up_alloc w5 (.cells #[.int .i64 7, .string { data := #[] }, .string { data := #[] }, .string x, .int .i64 3, .int .i64 k, .int .i64 ((j : Int) + 1), .int .i64 0, .int .i64 0, .int .i64 0] 27)))
        have M5 := hid (blk_new w5 (.cells #[.int .i64 7, .string { data := #[] }, .string { data := #[] }, .string x, .int .i64 3, .int .i64 k, .int .i64 ((j : Int) + 1), .int .i64 0, .int .i64 0, .int .i64 0] 27))
        have u5 := hid (up_al (up_trans u4.out hb) (.cells #[.int .i64 7, .string { data := #[] }, .string { data := #[] }, .string x, .int .i64 3, .int .i64 k, .int .i64 ((j : Int) + 1), .int .i64 0, .int .i64 0, .int .i64 0] 27))
        clear hb z0 z1 z2 m'0 m'1 m'2 m'3 m'4 m'5 m'6 m'7 m'8 m'9
        have z0 := blk_cell L5.out 0 _ rfl
        have z1 := blk_cell L5.out 1 _ rfl
        have z2 := blk_cell L5.out 2 _ rfl
        go_wp2_with fail
        refine (D.out _).mono ?_
        rintro e w6 ⟨rfl, hb⟩
        have L6 := hid (blk_up L5.out hb)
        have J6 := hid (blk_up J5.out hb)
        have M6 := hid (blk_up M5.out hb)
        have u6 := hid (up_trans u5.out hb)
        clear hb z0 z1 z2 L4 J4 H4 u4 L5 J5 M5 u5
        have z0 := blk_cell L6.out 0 _ rfl
        have z1 := blk_cell L6.out 1 _ rfl
        have z2 := blk_cell L6.out 2 _ rfl
        have m'0 := blk_cell M6.out 0 _ rfl
        have m'1 := blk_cell M6.out 1 _ rfl
        have m'2 := blk_cell M6.out 2 _ rfl
        have m'3 := blk_cell M6.out 3 _ rfl
        have m'4 := blk_cell M6.out 4 _ rfl
        have m'5 := blk_cell M6.out 5 _ rfl
        have m'6 := blk_cell M6.out 6 _ rfl
        have m'7 := blk_cell M6.out 7 _ rfl
        have m'8 := blk_cell M6.out 8 _ rfl
        have m'9 := blk_cell M6.out 9 _ rfl
        have n'0 := blk_cell J6.out 0 _ rfl
        have n'1 := blk_cell J6.out 1 _ rfl
        have n'2 := blk_cell J6.out 2 _ rfl
        have n'3 := blk_cell J6.out 3 _ rfl
        have n'4 := blk_cell J6.out 4 _ rfl
        have n'5 := blk_cell J6.out 5 _ rfl
        have n'6 := blk_cell J6.out 6 _ rfl
        have n'7 := blk_cell J6.out 7 _ rfl
        have n'8 := blk_cell J6.out 8 _ rfl
        have n'9 := blk_cell J6.out 9 _ rfl
        have FB := hid (set10_blk J6.out (.int .i64 7) (.string { data := #[] }) (.string { data := #[] }) (.string x) (.int .i64 3) (.int .i64 k) (.int .i64 ((j : Int) + 1)) (.int .i64 0) (.int .i64 0) (.int .i64 0))
        have FG := hid (set10_grown w6 w2.heap.size (.int .i64 7) (.string { data := #[] }) (.string { data := #[] }) (.string x) (.int .i64 3) (.int .i64 k) (.int .i64 ((j : Int) + 1)) (.int .i64 0) (.int .i64 0) (.int .i64 0))
        have FL := hid (blk_grown L6.out FG.out (by simp; omega))
        have FU := hid (u6.out.grown FG.out u6.out.size (fun k hk => by simp at hk; omega))
        have PK : ((j : Int) + 1 != (j : Int) + 1) = false := by simp
        have PD : (k + dd != k + dd) = false := by simp
        have P3 : (k != k) = false := by simp
        clear T V D
        go_upto_region 13 with fail
        go_cut [109] from 34 to 110 (fun v wx => v = .bool false ∧ w6 = wx)
        case first =>
          clear n'0 n'1 n'2 n'3 n'4 n'5 n'6 n'7 n'8 n'9 m'0 m'1 m'2 m'3 m'7 m'8 m'9 FB FG FL FU L6 J6 M6 u6
          go_wp2_with fail
          refine (num_any _ _).mono ?_
          rintro e w9 ⟨rfl, rfl⟩
          go_wp2_with fail
          refine (num_any _ _).mono ?_
          rintro e w9 ⟨rfl, rfl⟩
          go_wp2_with fail
          go_meet
          exact ⟨rfl, rfl⟩
        case rest =>
        obtain ⟨rfl, rfl⟩ := hcut
        have f'0 := blk_frozen J6.out 0
        have f'1 := blk_frozen J6.out 1
        have f'2 := blk_frozen J6.out 2
        have f'3 := blk_frozen J6.out 3
        have f'4 := blk_frozen J6.out 4
        have f'5 := blk_frozen J6.out 5
        have f'6 := blk_frozen J6.out 6
        have f'7 := blk_frozen J6.out 7
        have f'8 := blk_frozen J6.out 8
        have f'9 := blk_frozen J6.out 9
        go_wp2_with fail
        go_roundw
        case measure => simp [intOf]; omega
        case rel => first | exact ⟨j + 1, 3, k, by omega, fun q => (by exfalso; omega), by omega, by go_num, FL, FB, FU⟩ | ((repeat apply Exists.intro); exact ⟨⟨j + 1, 3, k, by omega, fun q => (by exfalso; omega), by omega, by go_num, FL, FB, FU⟩, rfl⟩)
    · clear HT HU1 HU2 HD2 ht
      clear z0 z1 x0 x1 x2 x4 x5 x6 x7 x8 x9 LO
      go_wp2_with fail
      go_quiet (fail)
      go_wp2_with fail
      go_ret
      exact ⟨by first | rfl | (simp; done), by first | exact UW.out | exact up_trans UW.out (up_drewN _ _)⟩

end Go.Proofs.YtpjmieiajhhbaaaDoor
