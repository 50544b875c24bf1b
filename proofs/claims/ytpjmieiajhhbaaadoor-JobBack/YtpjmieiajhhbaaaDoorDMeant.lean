/- The program's meant. -/
import Derived.Test.YtpjmieiajhhbaaaDoorDItem
namespace Go.Proofs.YtpjmieiajhhbaaaDoor
open Go.RowKit
set_option linter.unusedVariables false
set_option linter.unusedSimpArgs false

theorem week_fold {s : Nat} (hs : s < 18446744073709551616) (hf : ∀ j, 7 < j → s.testBit j = false) : weekN s = if s.testBit 7 then (s &&& (18446744073709551615 - 128)) ||| 1 else s := by
  apply Nat.eq_of_testBit_eq
  intro j
  rw [weekN_bit]
  by_cases h7 : s.testBit 7 = true
  · rw [if_pos h7, h7, Nat.testBit_or, Nat.testBit_and, show (18446744073709551615 - 128 : Nat) = 2 ^ 64 - (128 + 1) from rfl, Nat.testBit_two_pow_sub_succ (by decide), show (128 : Nat) = 2 ^ 7 from rfl, Nat.testBit_two_pow, show (1 : Nat) = 2 ^ 0 from rfl, Nat.testBit_two_pow]
    by_cases c : j < 7
    · have a : j < 64 := by omega
      have b : ¬ 7 = j := by omega
      simp [c, a, b, eq_comm]
    · by_cases d : j = 7
      · subst d
        simp
      · have e : ¬ 0 = j := by omega
        have e2 : ¬ j = 0 := by omega
        rw [hf j (by omega)]
        simp [c, e, e2]
  · have h7 : s.testBit 7 = false := by simpa using h7
    rw [h7]
    simp only [Bool.false_eq_true, reduceIte, Bool.and_false, Bool.or_false]
    by_cases c : j < 7
    · simp [c]
    · by_cases d : j = 7
      · subst d
        rw [h7]
        rfl
      · rw [hf j (by omega)]
        simp
theorem bits_week (s : Nat) (hs : s < 18446744073709551616) : bits .or .u64 (bits .andNot .u64 (s : Int) 128) 1 = (((s &&& (18446744073709551615 - 128)) ||| 1 : Nat) : Int) := by
  have h1 := u64_andNot_nat s 128 hs (by decide)
  have h2 : (s &&& (18446744073709551615 - 128)) < 18446744073709551616 := Nat.lt_of_le_of_lt Nat.and_le_left hs
  rw [show (128 : Int) = ((128 : Nat) : Int) from rfl, h1]
  exact bit_or _ 1 h2 (by decide)
set_option maxHeartbeats 4000000 in
set_option maxRecDepth 20000 in
theorem meant_any (i : Nat) (hi : i < 5) (l : List Int) (hx : ∀ x ∈ l, 0 ≤ x ∧ x ≤ 255) (hm : l.length ≤ 140737488355328) (w : World) (he : Env w) :
    Calls Tryd.prog 89 #[.int .i64 (i : Int), .string (strOfNums l)] w fun e w' => e = .returned (.tuple #[.int .u64 (itemW i l : Nat), .bool (!(itemW i l == 0))]) ∧ Below w.heap.size w w' := by
  have C := hid (cutS_any l hx hm 47)
  have e47 : ((47 : UInt8).toNat : Int) = 47 := rfl
  rw [e47] at C
  obtain ⟨p1, p2, p3, p4⟩ := cutQ_parts l 47
  have HN : Hid (∀ w', Calls Tryd.prog 103 #[.string (strOfNums (cutQ l 47).2.1)] w' fun e w'' => e = .returned (.tuple #[.int .i64 (numQ (cutQ l 47).2.1).1, .bool (numQ (cutQ l 47).2.1).2]) ∧ w'' = w') := fun w' => number_any _ (fun x h => hx x (p4 x h)) (by omega) w'
  have HE : Hid (∀ w', Below w.heap.size w w' → Calls Tryd.prog 102 #[.int .i64 (i : Int), .string (strOfNums (cutQ l 47).1)] w' fun e w'' => e = .returned (.tuple #[.int .i64 (endsP (loN i) (hiN i) (topN i) (cutQ l 47).1).1, .int .i64 (endsP (loN i) (hiN i) (topN i) (cutQ l 47).1).2.1, .bool (endsP (loN i) (hiN i) (topN i) (cutQ l 47).1).2.2.1, .bool (endsP (loN i) (hiN i) (topN i) (cutQ l 47).1).2.2.2]) ∧ Below w'.heap.size w' w'') := fun w' hb => ends_any i hi _ (fun x h => hx x (p3 x h)) (by omega) w' (he.up hb)
  have IP := hid (fun h => item_plain hi l h)
  have IS := hid (fun h => item_step hi l h)
  have EI := hid (fun h => ends_in hi (cutQ l 47).1 h)
  obtain ⟨-, -, t0, -, -⟩ := field_nums hi
  have T4 : Hid (i = 4 → topN i = 7) := fun h => if_pos h
  have nb := numQ_bounds (cutQ l 47).2.1
  obtain ⟨nb0, nb1⟩ := nb
  have tl : topN i ≤ 59 := t0.2
  clear hx p1 p2 p3 p4 he t0
  generalize itemW i l = R at *
  generalize (numQ (cutQ l 47).2.1).1 = st at *
  generalize (numQ (cutQ l 47).2.1).2 = so at *
  generalize (endsP (loN i) (hiN i) (topN i) (cutQ l 47).1).1 = a at *
  generalize (endsP (loN i) (hiN i) (topN i) (cutQ l 47).1).2.1 = b at *
  generalize (endsP (loN i) (hiN i) (topN i) (cutQ l 47).1).2.2.1 = many at *
  generalize (endsP (loN i) (hiN i) (topN i) (cutQ l 47).1).2.2.2 = ok at *
  generalize topN i = top at *
  generalize (cutQ l 47).1 = l1 at *
  generalize (cutQ l 47).2.1 = l2 at *
  generalize (cutQ l 47).2.2 = sp at *
  go_enter Tryd.func89, Tryd.ntmps89
  go_wp2_with fail
  refine (C.out _).mono ?_
  rintro e w1 ⟨rfl, hb1⟩
  go_wp2_with fail
  refine (HE.out _ hb1).mono ?_
  rintro e w2 ⟨rfl, hb2⟩
  have U2 := hid (up_trans hb1 hb2)
  go_upto_region 4 with fail
  go_cut [33] from 16 (fun v33 wx => v33 = .bool (ok && sp) ∧ w2 = wx)
  case first =>
    cases ok
    all_goals
      go_wp2_with fail
      go_meet
      case rel => exact ⟨rfl, rfl⟩
  case rest =>
  obtain ⟨rfl, rfl⟩ := hcut
  go_upto_if 33 with fail
  go_cut [12, 13] from 16 (fun v12 v13 wx => ∃ (o : Bool) (s : Int), v12 = .bool o ∧ v13 = .int .i64 s ∧ Hid (o = true → 1 ≤ s ∧ s ≤ 99 ∧ 0 ≤ a ∧ a ≤ b ∧ b ≤ 59 ∧ (i = 4 → b ≤ 7) ∧ R = foldN i (rset a b s)) ∧ Hid (o = false → R = 0) ∧ w2 = wx)
  case first =>
    cases ok
    · have R0 : Hid (R = 0) := by
        cases sp
        · exact (IP.out rfl).2 rfl
        · exact (IS.out rfl).2 (.inl rfl)
      clear IP IS EI
      have ff : (false && sp) = false := rfl
      rw [ff]
      go_wp2_with fail
      go_meet
      case rel => exact ⟨false, 1, rfl, rfl, (fun h => by cases h), (fun _ => R0.out), rfl⟩
    · have EI2 := EI.out rfl
      cases sp
      · have R1 := hid ((IP.out rfl).1 rfl)
        have HB : Hid (1 ≤ (1 : Int) ∧ (1 : Int) ≤ 99 ∧ 0 ≤ a ∧ a ≤ b ∧ b ≤ 59 ∧ (i = 4 → b ≤ 7) ∧ R = foldN i (rset a b 1)) := ⟨by omega, by omega, EI2.1, EI2.2.1, by omega, fun h => by have := T4.out h; omega, R1.out⟩
        clear EI2
        go_wp2_with fail
        go_meet
        case rel => exact ⟨true, 1, rfl, rfl, (fun _ => HB.out), (fun h => by cases h), rfl⟩
      · have RS := hid (IS.out rfl)
        cases so
        · have R0 := hid (RS.out.2 (.inr (.inl rfl)))
          go_wp2_with fail
          refine (HN.out _).mono ?_
          rintro e w3 ⟨rfl, rfl⟩
          go_wp2_with fail
          go_meet
          case rel => exact ⟨false, st, rfl, rfl, (fun h => by cases h), (fun _ => R0.out), rfl⟩
        · by_cases c : 0 < st
          · cases many
            · have R0 := hid (RS.out.2 (.inr (.inr (.inr rfl))))
              clear EI2
              go_wp2_with fail
              refine (HN.out _).mono ?_
              rintro e w3 ⟨rfl, rfl⟩
              go_wp2_with fail
              go_meet
              case rel => exact ⟨false, st, rfl, rfl, (fun h => by cases h), (fun _ => R0.out), rfl⟩
            · have R1 := hid (RS.out.1 ⟨rfl, rfl, c, rfl⟩)
              have HB : Hid (1 ≤ st ∧ st ≤ 99 ∧ 0 ≤ a ∧ a ≤ b ∧ b ≤ 59 ∧ (i = 4 → b ≤ 7) ∧ R = foldN i (rset a b st)) := ⟨by omega, by omega, EI2.1, EI2.2.1, by omega, fun h => by have := T4.out h; omega, R1.out⟩
              clear EI2
              go_wp2_with fail
              refine (HN.out _).mono ?_
              rintro e w3 ⟨rfl, rfl⟩
              go_wp2_with fail
              go_meet
              case rel => exact ⟨true, st, rfl, rfl, (fun _ => HB.out), (fun h => by cases h), rfl⟩
          · have R0 := hid (RS.out.2 (.inr (.inr (.inl (by omega)))))
            clear EI2
            go_wp2_with fail
            refine (HN.out _).mono ?_
            rintro e w3 ⟨rfl, rfl⟩
            go_wp2_with fail
            go_meet
            case rel => exact ⟨false, st, rfl, rfl, (fun h => by cases h), (fun _ => R0.out), rfl⟩
  case rest =>
  obtain ⟨o, s, rfl, rfl, H1, H0, rfl⟩ := hcut
  clear IP IS EI HN HE C hb1 hb2
  cases o
  · have R0 := hid (H0.out rfl)
    go_wp2_with fail
    go_ret2
    exact ⟨by rw [R0.out]; rfl, U2.out⟩
  · obtain ⟨s0, s1, a0, ab, b1, b7, hR⟩ := H1.out rfl
    have HR := hid hR
    have B7 := hid b7
    clear H0 H1 hR b7
    obtain ⟨A, rfl⟩ : ∃ A : Nat, a = (A : Int) := ⟨a.toNat, by omega⟩
    have SB := hid (fun j hj => rset_bit (A : Int) b s j hj)
    have SF := hid (fun j (hj : b < ((j : Nat) : Int)) => rset_far (a := (A : Int)) (st := s) hj)
    have SL := rset_lt (A : Int) b s
    have NE := hid (fold_ne (i := 0) (st := s) i a0 ab (by omega : b ≤ 63) B7.out)
    obtain ⟨Z, hZ⟩ : ∃ Z, Z = rset (A : Int) b s := ⟨_, rfl⟩
    rw [← hZ] at HR SB SF SL NE
    clear hZ
    rw [← HR.out] at NE
    go_wp2_with fail
    go_loopw [14, 15] (fun v q wr => ∃ (k n : Nat), q = .int .i64 (k : Int) ∧ A ≤ k ∧ k ≤ 170 ∧ v = .int .u64 (n : Int) ∧ n < 18446744073709551616 ∧ Hid (((k : Int) - A) % s = 0 ∧ (k = A ∨ (k : Int) - s ≤ b)) ∧ Hid (∀ j, j < 64 → n.testBit j = (decide ((A : Int) ≤ (j : Int)) && (decide ((j : Int) < (k : Int)) && decide (((j : Int) - A) % s = 0)))) ∧ w2 = wr) (fun _ q _ => (200 - intOf q).toNat)
    case atStart =>
      refine ⟨A, 0, rfl, by omega, by omega, rfl, by omega, ⟨by simp, .inl rfl⟩, fun j _ => ?_, rfl⟩
      rw [Nat.zero_testBit, eq_comm, Bool.and_eq_false_iff]
      by_cases q : (A : Int) ≤ (j : Int)
      · right
        rw [Bool.and_eq_false_iff]
        left
        exact decide_eq_false (by omega)
      · left
        exact decide_eq_false q
    case round =>
      obtain ⟨k, n, rfl, k0, k1, rfl, nl, hk, hn, rfl⟩ := hrel
      by_cases c : (k : Int) ≤ b
      · have k64 : k < 64 := by omega
        have po := bit_or n (2 ^ k) nl (pow_lt k64)
        have PO := hid po
        clear po
        have N2 : Hid (n ||| 2 ^ k < 18446744073709551616) := or_lt nl (pow_lt k64)
        obtain ⟨K, hK⟩ : ∃ K : Nat, (k : Int) + s = (K : Int) := ⟨((k : Int) + s).toNat, by omega⟩
        have HK : Hid (((K : Int) - A) % s = 0 ∧ (K = A ∨ (K : Int) - s ≤ b)) := by
          unfold Hid
          rw [← hK]
          exact ⟨step_on hk.out.1, .inr (by omega)⟩
        have HB2 : Hid (∀ j, j < 64 → (n ||| 2 ^ k).testBit j = (decide ((A : Int) ≤ (j : Int)) && (decide ((j : Int) < (K : Int)) && decide (((j : Int) - A) % s = 0)))) := by
          intro j hj
          have sb := step_bit (a := (A : Int)) (st := s) (k := (k : Int)) (j := (j : Int)) (by omega) hk.out.1
          rw [Nat.testBit_or, hn.out j hj, Nat.testBit_two_pow, Bool.eq_iff_iff, ← hK]
          simp only [Bool.or_eq_true, Bool.and_eq_true, decide_eq_true_eq]
          constructor
          · rintro (⟨h1, h2⟩ | h)
            · exact ⟨h1, sb.mpr (.inl h2)⟩
            · exact ⟨by omega, sb.mpr (.inr (by omega))⟩
          · rintro ⟨h1, h2⟩
            rcases sb.mp h2 with q | q
            · exact .inl ⟨h1, q⟩
            · exact .inr (by omega)
        go_wp2
        exact ⟨⟨K, n ||| 2 ^ k, by go_num, by omega, by omega, by rw [pow_wrap k64, PO.out], N2, HK, HB2, by first | rfl | trivial⟩, by simp [intOf]; omega⟩
      · have E : n = Z := by
          refine set_ext nl SL fun j hj => ?_
          rw [hn.out j hj, SB.out j hj, Bool.eq_iff_iff]
          simp only [Bool.and_eq_true, decide_eq_true_eq]
          constructor
          · rintro ⟨h1, h2, h3⟩
            refine ⟨h1, ?_, h3⟩
            rcases hk.out.2 with q | q
            · omega
            · have := step_back (a := (A : Int)) (st := s) (k := (k : Int)) (j := (j : Int)) (by omega) hk.out.1 h3 h2
              omega
          · rintro ⟨h1, h2, h3⟩
            exact ⟨h1, by omega, h3⟩
        subst E
        have NE2 : Hid ((!(R == 0)) = true) := by
          unfold Hid
          simpa using NE.out
        by_cases h4 : i = 4
        · have h4' : ((i : Int) == 4) = true := by simp [h4]
          have hw : weekN n = if n.testBit 7 then (n &&& (18446744073709551615 - 128)) ||| 1 else n := week_fold nl (fun j hj => SF.out j (by have := B7.out h4; omega))
          have HR2 : R = weekN n := by
            rw [HR.out]
            exact if_pos h4
          have H7 := hid (hasP_any n 7 nl (by omega) w2)
          cases h7 : n.testBit 7
          · rw [h7] at H7 hw
            have HR3 : Hid (R = n) := by rw [HR2, hw]; rfl
            clear hw HR2 hk hn SB SF HR
            go_wp2_with fail
            refine H7.out.mono ?_
            rintro e w3 ⟨rfl, rfl⟩
            go_wp2_with fail
            go_ret2
            exact ⟨by rw [NE2.out, HR3.out]; rfl, U2.out⟩
          · rw [h7] at H7 hw
            have HR3 : Hid (R = (n &&& (18446744073709551615 - 128)) ||| 1) := by rw [HR2, hw]; rfl
            have bw := hid (bits_week n nl)
            clear hw HR2 hk hn SB SF HR
            go_wp2_with fail
            refine H7.out.mono ?_
            rintro e w3 ⟨rfl, rfl⟩
            go_wp2_with fail
            go_ret2
            exact ⟨by rw [NE2.out, HR3.out, ← bw.out]; rfl, U2.out⟩
        · have h4' : ((i : Int) == 4) = false := by simp; omega
          have HR3 : Hid (R = n) := by
            unfold Hid
            rw [HR.out]
            exact if_neg h4
          clear hk hn SB SF HR
          go_wp2_with fail
          go_ret2
          exact ⟨by rw [NE2.out, HR3.out]; rfl, U2.out⟩
end Go.Proofs.YtpjmieiajhhbaaaDoor
