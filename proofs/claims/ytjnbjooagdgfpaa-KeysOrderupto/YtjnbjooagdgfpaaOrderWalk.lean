/- The law KeysOrder, walked: for any two slices of parts, of bulk at most 2^20, the Go function returns true and changes nothing that was there. -/
import Derived.Test.YtjnbjooagdgfpaaOrderMath
namespace Go.Proofs.Ytjnbjooagdgfpaa
open Go.RowKit
set_option linter.unusedVariables false

set_option maxHeartbeats 8000000 in
theorem order_upto (a : List (Bool × Int × List Int)) (va : Value) {w : World} (ha : Parts w va a) (la : a.length ≤ 1048576) (ta : ∀ p ∈ a, p.2.2.length ≤ 1048576)
    (b : List (Bool × Int × List Int)) (vb : Value) (hb : Parts w vb b) (lb : b.length ≤ 1048576) (tb : ∀ p ∈ b, p.2.2.length ≤ 1048576) :
    Calls Try.prog 6 #[va, vb] w fun e w' => e = .returned (.bool true) ∧ Below w.heap.size w w' := by
  have HA : Hid (Parts w va a) := ha
  have HB : Hid (Parts w vb b) := hb
  have TA : Hid (∀ p ∈ a, p.2.2.length ≤ 1099511627776) := fun p hp => by have := ta p hp; omega
  have TB : Hid (∀ p ∈ b, p.2.2.length ≤ 1099511627776) := fun p hp => by have := tb p hp; omega
  obtain ⟨_, aa, ca, rfl, hca, hma, h3⟩ := ha
  obtain ⟨_, ab, cb, rfl, hcb, hmb, h4⟩ := hb
  unfold maxLen at hma hmb
  clear h3 h4 ta tb
  go_enter Try.func6, Try.ntmps6
  go_wp2_with fail
  refine (alive_any _).mono ?_
  rintro e w1 ⟨rfl, hb1⟩
  have U1 : Hid (Below w.heap.size w w1) := hb1
  clear hb1
  go_wp2_with fail
  refine (of_any a _ _ (HA.out.up U1.out) (by omega)).mono ?_
  rintro e w2 ⟨x, rfl, ho2, hb2⟩
  have U2 : Hid (Below w.heap.size w w2) := up_trans U1.out hb2
  have HX : Hid (Parts w2 x a) := Parts.own ho2 HA.out.1
  clear ho2 hb2 U1
  go_wp2_with fail
  refine (encode_any a _ _ HX.out TA.out).mono ?_
  rintro e w3 ⟨rfl, hb3⟩
  have U3 : Hid (Below w.heap.size w w3) := up_trans U2.out hb3
  clear hb3 U2 HX
  go_wp2_with fail
  refine (of_any b _ _ (HB.out.up U3.out) (by omega)).mono ?_
  rintro e w4 ⟨y, rfl, ho4, hb4⟩
  have U4 : Hid (Below w.heap.size w w4) := up_trans U3.out hb4
  have HY : Hid (Parts w4 y b) := Parts.own ho4 HB.out.1
  clear ho4 hb4 U3
  go_wp2_with fail
  refine (encode_any b _ _ HY.out TB.out).mono ?_
  rintro e w5 ⟨rfl, hb5⟩
  have U5 : Hid (Below w.heap.size w w5) := up_trans U4.out hb5
  clear hb5 U4 HY
  go_wp2_with fail
  refine (of_any a _ _ (HA.out.up U5.out) (by omega)).mono ?_
  rintro e w6 ⟨x6, rfl, ho6, hb6⟩
  have U6 : Hid (Below w.heap.size w w6) := up_trans U5.out hb6
  have HX6 : Hid (Parts w6 x6 a) := Parts.own ho6 HA.out.1
  clear ho6 hb6 U5
  go_wp2_with fail
  refine (of_any b _ _ (HB.out.up U6.out) (by omega)).mono ?_
  rintro e w7 ⟨y7, rfl, ho7, hb7⟩
  have U7 : Hid (Below w.heap.size w w7) := up_trans U6.out hb7
  have HY7 : Hid (Parts w7 y7 b) := Parts.own ho7 HB.out.1
  have HX7 : Hid (Parts w7 x6 a) := HX6.out.up hb7
  clear ho7 hb7 U6 HX6
  go_wp2_with fail
  refine (compare_any a b _ _ _ HX7.out HY7.out).mono ?_
  rintro e w8 ⟨rfl, hb8⟩
  have U8 : Hid (Below w.heap.size w w8) := up_trans U7.out hb8
  clear hb8 U7 HX7 HY7
  by_cases c1 : checkOf a = 0
  · have E1 : Hid (encodeOf a = (encL a, 0)) := by unfold Hid encodeOf; rw [if_pos c1]
    by_cases c2 : checkOf b = 0
    · have E2 : Hid (encodeOf b = (encL b, 0)) := by unfold Hid encodeOf; rw [if_pos c2]
      have E3 : Hid (compareOf a b = (cmpLs a b, 0)) := by unfold Hid compareOf; rw [if_pos c1, if_pos c2]
      have ka : ∀ p ∈ a, Pwf p ∧ okP p = true := fun p hp => ⟨HA.out.1 p hp, List.all_eq_true.1 (check_eight c1).2 p hp⟩
      have kb : ∀ p ∈ b, Pwf p ∧ okP p = true := fun p hp => ⟨HB.out.1 p hp, List.all_eq_true.1 (check_eight c2).2 p hp⟩
      have ord := enc_order a b ka kb
      have oa := encL_octet a HA.out.1
      have ob := encL_octet b HB.out.1
      have f1 : Op.bytesLess (strOfNums (encL a)).toList (strOfNums (encL b)).toList = decide (cmpLs a b < 0) := by rw [str_less (encL a) (encL b) oa ob, ord.1]
      have f2 : ((strOfNums (encL a)).toList == (strOfNums (encL b)).toList) = decide (cmpLs a b = 0) := by rw [str_eq (encL a) (encL b) oa ob]; exact decide_eq_decide.2 ord.2
      rw [E1.out, E2.out, E3.out]
      have CT : Hid (∀ k, checkOf (a.take k) = 0) := fun k => check_take a k c1
      have ET : Hid (∀ k, encL a = encL (a.take k) ++ encL (a.drop k)) := fun k => encL_take a k
      clear ka kb ord oa ob c1 c2 E1 E2 E3
      generalize hX : encL a = X at *
      generalize encL b = Y at *
      generalize cmpLs a b = n at *
      have hzx := str_size X
      rcases Int.lt_trichotomy n 0 with cn | cn | cn
      · have f1' : Op.bytesLess (strOfNums X).toList (strOfNums Y).toList = true := by rw [f1]; simp [cn]
        have f2' : ((strOfNums X).toList == (strOfNums Y).toList) = false := by rw [f2]; simp; omega
        have nb : (n == 0) = false := by simp; omega
        go_wp2_with fail
        refine (num_any _ _).mono ?_
        rintro e w9 ⟨rfl, rfl⟩
        go_wp2_with fail
        refine (num_any _ _).mono ?_
        rintro e w9 ⟨rfl, rfl⟩
        go_wp2_with fail
        refine (num_any _ _).mono ?_
        rintro e w9 ⟨rfl, rfl⟩
        clear f1 f2
        by_cases cl : (a.length : Int) ≤ (b.length : Int)
        · have hk : a.length ≤ a.length := by omega
          have HC : Hid (Parts w9 (.slice aa a.length ca) (a.take a.length)) := (HA.out.up U8.out).cut a.length hk
          have HE : Hid (encodeOf (a.take a.length) = (encL (a.take a.length), 0)) := by unfold Hid encodeOf; rw [if_pos (CT.out a.length)]
          have hT := ET.out a.length
          have hsz1 : (strOfNums (encL (a.take a.length))).size = (encL (a.take a.length)).length := str_size _
          have hle : (encL (a.take a.length)).length ≤ X.length := by rw [hT, List.length_append]; omega
          have hle' : ((encL (a.take a.length)).length : Int) ≤ (X.length : Int) := by omega
          have hex : (strOfNums X).extract 0 (encL (a.take a.length)).length = strOfNums (encL (a.take a.length)) := by
            rw [str_cut, hT]
            simp
          have HTk : Hid (∀ p ∈ a.take a.length, p.2.2.length ≤ 1099511627776) := fun p hp => TA.out p (List.mem_of_mem_take hp)
          have hlk : (a.take a.length).length ≤ 4398046511104 := by have := List.length_take_le a.length a; omega
          clear hT hle
          have hml : (a.length : Int) ≤ (ca : Int) := by omega
          go_wp2_with fail
          refine (of_any (a.take a.length) _ _ HC.out hlk).mono ?_
          rintro e w10 ⟨x10, rfl, ho10, hb10⟩
          have U10 : Hid (Below w.heap.size w w10) := up_trans U8.out hb10
          have HX10 : Hid (Parts w10 x10 (a.take a.length)) := Parts.own ho10 HC.out.1
          clear ho10 hb10 HC
          go_wp2_with fail
          refine (encode_any (a.take a.length) _ _ HX10.out HTk.out).mono ?_
          rintro e w11 ⟨rfl, hb11⟩
          rw [HE.out]
          have U11 : Hid (Below w.heap.size w w11) := up_trans U10.out hb11
          clear hb11 U10 HX10 HE
          generalize encL (a.take a.length) = C at *
          go_wp2_with fail
          refine (num_any _ _).mono ?_
          rintro e w12 ⟨rfl, rfl⟩
          go_wp2
          go_ret
          exact ⟨by simp, U11.out⟩
        · have hk : b.length ≤ a.length := by omega
          have HC : Hid (Parts w9 (.slice aa b.length ca) (a.take b.length)) := (HA.out.up U8.out).cut b.length hk
          have HE : Hid (encodeOf (a.take b.length) = (encL (a.take b.length), 0)) := by unfold Hid encodeOf; rw [if_pos (CT.out b.length)]
          have hT := ET.out b.length
          have hsz1 : (strOfNums (encL (a.take b.length))).size = (encL (a.take b.length)).length := str_size _
          have hle : (encL (a.take b.length)).length ≤ X.length := by rw [hT, List.length_append]; omega
          have hle' : ((encL (a.take b.length)).length : Int) ≤ (X.length : Int) := by omega
          have hex : (strOfNums X).extract 0 (encL (a.take b.length)).length = strOfNums (encL (a.take b.length)) := by
            rw [str_cut, hT]
            simp
          have HTk : Hid (∀ p ∈ a.take b.length, p.2.2.length ≤ 1099511627776) := fun p hp => TA.out p (List.mem_of_mem_take hp)
          have hlk : (a.take b.length).length ≤ 4398046511104 := by have := List.length_take_le b.length a; omega
          clear hT hle
          have hml : (b.length : Int) ≤ (ca : Int) := by omega
          go_wp2_with fail
          refine (of_any (a.take b.length) _ _ HC.out hlk).mono ?_
          rintro e w10 ⟨x10, rfl, ho10, hb10⟩
          have U10 : Hid (Below w.heap.size w w10) := up_trans U8.out hb10
          have HX10 : Hid (Parts w10 x10 (a.take b.length)) := Parts.own ho10 HC.out.1
          clear ho10 hb10 HC
          go_wp2_with fail
          refine (encode_any (a.take b.length) _ _ HX10.out HTk.out).mono ?_
          rintro e w11 ⟨rfl, hb11⟩
          rw [HE.out]
          have U11 : Hid (Below w.heap.size w w11) := up_trans U10.out hb11
          clear hb11 U10 HX10 HE
          generalize encL (a.take b.length) = C at *
          go_wp2_with fail
          refine (num_any _ _).mono ?_
          rintro e w12 ⟨rfl, rfl⟩
          go_wp2
          go_ret
          exact ⟨by simp, U11.out⟩
      · have f1' : Op.bytesLess (strOfNums X).toList (strOfNums Y).toList = false := by rw [f1]; simp [cn]
        have f2' : ((strOfNums X).toList == (strOfNums Y).toList) = true := by rw [f2]; simp [cn]
        subst cn
        go_wp2_with fail
        refine (num_any _ _).mono ?_
        rintro e w9 ⟨rfl, rfl⟩
        go_wp2_with fail
        refine (num_any _ _).mono ?_
        rintro e w9 ⟨rfl, rfl⟩
        go_wp2_with fail
        refine (num_any _ _).mono ?_
        rintro e w9 ⟨rfl, rfl⟩
        clear f1 f2
        by_cases cl : (a.length : Int) ≤ (b.length : Int)
        · have hk : a.length ≤ a.length := by omega
          have HC : Hid (Parts w9 (.slice aa a.length ca) (a.take a.length)) := (HA.out.up U8.out).cut a.length hk
          have HE : Hid (encodeOf (a.take a.length) = (encL (a.take a.length), 0)) := by unfold Hid encodeOf; rw [if_pos (CT.out a.length)]
          have hT := ET.out a.length
          have hsz1 : (strOfNums (encL (a.take a.length))).size = (encL (a.take a.length)).length := str_size _
          have hle : (encL (a.take a.length)).length ≤ X.length := by rw [hT, List.length_append]; omega
          have hle' : ((encL (a.take a.length)).length : Int) ≤ (X.length : Int) := by omega
          have hex : (strOfNums X).extract 0 (encL (a.take a.length)).length = strOfNums (encL (a.take a.length)) := by
            rw [str_cut, hT]
            simp
          have HTk : Hid (∀ p ∈ a.take a.length, p.2.2.length ≤ 1099511627776) := fun p hp => TA.out p (List.mem_of_mem_take hp)
          have hlk : (a.take a.length).length ≤ 4398046511104 := by have := List.length_take_le a.length a; omega
          clear hT hle
          have hml : (a.length : Int) ≤ (ca : Int) := by omega
          go_wp2_with fail
          refine (of_any (a.take a.length) _ _ HC.out hlk).mono ?_
          rintro e w10 ⟨x10, rfl, ho10, hb10⟩
          have U10 : Hid (Below w.heap.size w w10) := up_trans U8.out hb10
          have HX10 : Hid (Parts w10 x10 (a.take a.length)) := Parts.own ho10 HC.out.1
          clear ho10 hb10 HC
          go_wp2_with fail
          refine (encode_any (a.take a.length) _ _ HX10.out HTk.out).mono ?_
          rintro e w11 ⟨rfl, hb11⟩
          rw [HE.out]
          have U11 : Hid (Below w.heap.size w w11) := up_trans U10.out hb11
          clear hb11 U10 HX10 HE
          generalize encL (a.take a.length) = C at *
          go_wp2_with fail
          refine (num_any _ _).mono ?_
          rintro e w12 ⟨rfl, rfl⟩
          go_wp2
          go_ret
          exact ⟨by simp, U11.out⟩
        · have hk : b.length ≤ a.length := by omega
          have HC : Hid (Parts w9 (.slice aa b.length ca) (a.take b.length)) := (HA.out.up U8.out).cut b.length hk
          have HE : Hid (encodeOf (a.take b.length) = (encL (a.take b.length), 0)) := by unfold Hid encodeOf; rw [if_pos (CT.out b.length)]
          have hT := ET.out b.length
          have hsz1 : (strOfNums (encL (a.take b.length))).size = (encL (a.take b.length)).length := str_size _
          have hle : (encL (a.take b.length)).length ≤ X.length := by rw [hT, List.length_append]; omega
          have hle' : ((encL (a.take b.length)).length : Int) ≤ (X.length : Int) := by omega
          have hex : (strOfNums X).extract 0 (encL (a.take b.length)).length = strOfNums (encL (a.take b.length)) := by
            rw [str_cut, hT]
            simp
          have HTk : Hid (∀ p ∈ a.take b.length, p.2.2.length ≤ 1099511627776) := fun p hp => TA.out p (List.mem_of_mem_take hp)
          have hlk : (a.take b.length).length ≤ 4398046511104 := by have := List.length_take_le b.length a; omega
          clear hT hle
          have hml : (b.length : Int) ≤ (ca : Int) := by omega
          go_wp2_with fail
          refine (of_any (a.take b.length) _ _ HC.out hlk).mono ?_
          rintro e w10 ⟨x10, rfl, ho10, hb10⟩
          have U10 : Hid (Below w.heap.size w w10) := up_trans U8.out hb10
          have HX10 : Hid (Parts w10 x10 (a.take b.length)) := Parts.own ho10 HC.out.1
          clear ho10 hb10 HC
          go_wp2_with fail
          refine (encode_any (a.take b.length) _ _ HX10.out HTk.out).mono ?_
          rintro e w11 ⟨rfl, hb11⟩
          rw [HE.out]
          have U11 : Hid (Below w.heap.size w w11) := up_trans U10.out hb11
          clear hb11 U10 HX10 HE
          generalize encL (a.take b.length) = C at *
          go_wp2_with fail
          refine (num_any _ _).mono ?_
          rintro e w12 ⟨rfl, rfl⟩
          go_wp2
          go_ret
          exact ⟨by simp, U11.out⟩
      · have f1' : Op.bytesLess (strOfNums X).toList (strOfNums Y).toList = false := by rw [f1]; simp; omega
        have f2' : ((strOfNums X).toList == (strOfNums Y).toList) = false := by rw [f2]; simp; omega
        have nb : (n == 0) = false := by simp; omega
        have nl : ¬ n < 0 := by omega
        go_wp2_with fail
        refine (num_any _ _).mono ?_
        rintro e w9 ⟨rfl, rfl⟩
        go_wp2_with fail
        refine (num_any _ _).mono ?_
        rintro e w9 ⟨rfl, rfl⟩
        go_wp2_with fail
        refine (num_any _ _).mono ?_
        rintro e w9 ⟨rfl, rfl⟩
        clear f1 f2
        by_cases cl : (a.length : Int) ≤ (b.length : Int)
        · have hk : a.length ≤ a.length := by omega
          have HC : Hid (Parts w9 (.slice aa a.length ca) (a.take a.length)) := (HA.out.up U8.out).cut a.length hk
          have HE : Hid (encodeOf (a.take a.length) = (encL (a.take a.length), 0)) := by unfold Hid encodeOf; rw [if_pos (CT.out a.length)]
          have hT := ET.out a.length
          have hsz1 : (strOfNums (encL (a.take a.length))).size = (encL (a.take a.length)).length := str_size _
          have hle : (encL (a.take a.length)).length ≤ X.length := by rw [hT, List.length_append]; omega
          have hle' : ((encL (a.take a.length)).length : Int) ≤ (X.length : Int) := by omega
          have hex : (strOfNums X).extract 0 (encL (a.take a.length)).length = strOfNums (encL (a.take a.length)) := by
            rw [str_cut, hT]
            simp
          have HTk : Hid (∀ p ∈ a.take a.length, p.2.2.length ≤ 1099511627776) := fun p hp => TA.out p (List.mem_of_mem_take hp)
          have hlk : (a.take a.length).length ≤ 4398046511104 := by have := List.length_take_le a.length a; omega
          clear hT hle
          have hml : (a.length : Int) ≤ (ca : Int) := by omega
          go_wp2_with fail
          refine (of_any (a.take a.length) _ _ HC.out hlk).mono ?_
          rintro e w10 ⟨x10, rfl, ho10, hb10⟩
          have U10 : Hid (Below w.heap.size w w10) := up_trans U8.out hb10
          have HX10 : Hid (Parts w10 x10 (a.take a.length)) := Parts.own ho10 HC.out.1
          clear ho10 hb10 HC
          go_wp2_with fail
          refine (encode_any (a.take a.length) _ _ HX10.out HTk.out).mono ?_
          rintro e w11 ⟨rfl, hb11⟩
          rw [HE.out]
          have U11 : Hid (Below w.heap.size w w11) := up_trans U10.out hb11
          clear hb11 U10 HX10 HE
          generalize encL (a.take a.length) = C at *
          go_wp2_with fail
          refine (num_any _ _).mono ?_
          rintro e w12 ⟨rfl, rfl⟩
          go_wp2
          go_ret
          exact ⟨by simp, U11.out⟩
        · have hk : b.length ≤ a.length := by omega
          have HC : Hid (Parts w9 (.slice aa b.length ca) (a.take b.length)) := (HA.out.up U8.out).cut b.length hk
          have HE : Hid (encodeOf (a.take b.length) = (encL (a.take b.length), 0)) := by unfold Hid encodeOf; rw [if_pos (CT.out b.length)]
          have hT := ET.out b.length
          have hsz1 : (strOfNums (encL (a.take b.length))).size = (encL (a.take b.length)).length := str_size _
          have hle : (encL (a.take b.length)).length ≤ X.length := by rw [hT, List.length_append]; omega
          have hle' : ((encL (a.take b.length)).length : Int) ≤ (X.length : Int) := by omega
          have hex : (strOfNums X).extract 0 (encL (a.take b.length)).length = strOfNums (encL (a.take b.length)) := by
            rw [str_cut, hT]
            simp
          have HTk : Hid (∀ p ∈ a.take b.length, p.2.2.length ≤ 1099511627776) := fun p hp => TA.out p (List.mem_of_mem_take hp)
          have hlk : (a.take b.length).length ≤ 4398046511104 := by have := List.length_take_le b.length a; omega
          clear hT hle
          have hml : (b.length : Int) ≤ (ca : Int) := by omega
          go_wp2_with fail
          refine (of_any (a.take b.length) _ _ HC.out hlk).mono ?_
          rintro e w10 ⟨x10, rfl, ho10, hb10⟩
          have U10 : Hid (Below w.heap.size w w10) := up_trans U8.out hb10
          have HX10 : Hid (Parts w10 x10 (a.take b.length)) := Parts.own ho10 HC.out.1
          clear ho10 hb10 HC
          go_wp2_with fail
          refine (encode_any (a.take b.length) _ _ HX10.out HTk.out).mono ?_
          rintro e w11 ⟨rfl, hb11⟩
          rw [HE.out]
          have U11 : Hid (Below w.heap.size w w11) := up_trans U10.out hb11
          clear hb11 U10 HX10 HE
          generalize encL (a.take b.length) = C at *
          go_wp2_with fail
          refine (num_any _ _).mono ?_
          rintro e w12 ⟨rfl, rfl⟩
          go_wp2
          go_ret
          exact ⟨by simp, U11.out⟩
    · have E2 : Hid (encodeOf b = ([], checkOf b)) := by unfold Hid encodeOf; rw [if_neg c2]
      have E3 : Hid (compareOf a b = (0, checkOf b)) := by unfold Hid compareOf; rw [if_pos c1, if_neg c2]
      have cbb : (checkOf b == 0) = false := by simp [c2]
      rw [E1.out, E2.out, E3.out]
      go_wp2_with fail
      refine (num_any _ _).mono ?_
      rintro e w9 ⟨rfl, rfl⟩
      go_wp2_with fail
      refine (num_any _ _).mono ?_
      rintro e w9 ⟨rfl, rfl⟩
      go_wp2_with fail
      refine (num_any _ _).mono ?_
      rintro e w9 ⟨rfl, rfl⟩
      go_wp2
      go_ret
      exact ⟨rfl, U8.out⟩
  · have E1 : Hid (encodeOf a = ([], checkOf a)) := by unfold Hid encodeOf; rw [if_neg c1]
    have E3 : Hid (compareOf a b = (0, checkOf a)) := by unfold Hid compareOf; rw [if_neg c1]
    have cba : (checkOf a == 0) = false := by simp [c1]
    rw [E1.out, E3.out]
    go_wp2_with fail
    refine (num_any _ _).mono ?_
    rintro e w9 ⟨rfl, rfl⟩
    go_wp2_with fail
    refine (num_any _ _).mono ?_
    rintro e w9 ⟨rfl, rfl⟩
    go_wp2
    go_ret
    have cbn : (checkOf a != 0) = true := by simp [bne, cba]
    exact ⟨by simp [cbn], U8.out⟩
end Go.Proofs.Ytjnbjooagdgfpaa
