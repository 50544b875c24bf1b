/- The document's Decode returns, for any text of at most 2^40 octets, the parts (in memory of their own) and the error that the plain function 'decodeOf' says. -/
import Derived.Test.YtjnbjooagdgfpaaDec
import Derived.Test.YtjnbjooagdgfpaaRefTxt
namespace Go.Proofs.Ytjnbjooagdgfpaa
open Go.RowKit
set_option linter.unusedVariables false

theorem txt_shift : ∀ (n : Nat) (l : List Int), l.length ≤ n → ∀ (a : List Int) (k : Nat), (txt a (k + 1) l).1 = (txt a k l).1 ∧ (txt a (k + 1) l).2.2 = (txt a k l).2.2 ∧ ((txt a k l).2.2 = 0 → (txt a (k + 1) l).2.1 = (txt a k l).2.1 + 1) ∧ (¬ (txt a k l).2.2 = 0 → txt a k l = ([], 0, (txt a k l).2.2))
  | 0, l, hn, a, k => by
    have : l = [] := List.length_eq_zero_iff.1 (by omega)
    subst this
    simp [txt]
  | n + 1, [], hn, a, k => by simp [txt]
  | n + 1, [x], hn, a, k => by simp [txt]
  | n + 1, x :: y :: r, hn, a, k => by
    by_cases c : x = 0
    · subst c
      by_cases d1 : y = 1
      · subst d1
        rw [txt_end, txt_end]
        simp
      · by_cases d2 : y = 255
        · subst d2
          rw [txt_zero, txt_zero]
          have := txt_shift n r (by simp at hn; omega) (a ++ [0]) (k + 2)
          have e : k + 1 + 2 = k + 2 + 1 := by omega
          rw [e]
          exact this
        · rw [txt_bad _ _ _ _ d1 d2, txt_bad _ _ _ _ d1 d2]
          simp
    · rw [txt_plain _ _ _ _ c, txt_plain _ _ _ _ c]
      exact txt_shift n (y :: r) (by simp at hn ⊢; omega) (a ++ [x]) (k + 1)

theorem xor_low (m : Nat) (h : m < 9223372036854775808) : m ^^^ 9223372036854775808 = m + 9223372036854775808 := by
  apply Nat.eq_of_testBit_eq
  intro i
  have e : (9223372036854775808 : Nat) = 2 ^ 63 := by decide
  rw [Nat.testBit_xor, e, Nat.add_comm]
  rcases Nat.lt_trichotomy i 63 with c | c | c
  · rw [Nat.testBit_two_pow_add_gt c, Nat.testBit_two_pow_of_ne (by omega)]
    simp
  · subst c
    rw [Nat.testBit_two_pow_add_eq, Nat.testBit_two_pow_self]
    simp
  · have hp : (2 : Nat) ^ 64 ≤ 2 ^ i := Nat.pow_le_pow_right (by omega) c
    have h64 : (2 : Nat) ^ 64 = 18446744073709551616 := by decide
    have h63 : (2 : Nat) ^ 63 = 9223372036854775808 := by decide
    rw [Nat.testBit_lt_two_pow (show m < 2 ^ i by omega), Nat.testBit_two_pow_of_ne (by omega), Nat.testBit_lt_two_pow (show 2 ^ 63 + m < 2 ^ i by omega)]
    rfl

theorem xor_sign (m : Int) (h0 : 0 ≤ m) (h1 : m ≤ 18446744073709551615) : bits .xor .u64 m 9223372036854775808 = if m < 9223372036854775808 then m + 9223372036854775808 else m - 9223372036854775808 := by
  obtain ⟨M, rfl⟩ := Int.eq_ofNat_of_zero_le h0
  have e : (9223372036854775808 : Int) = ((9223372036854775808 : Nat) : Int) := rfl
  rw [e, bits_xor_u64_nat M 9223372036854775808 (by omega) (by omega)]
  by_cases c : M < 9223372036854775808
  · rw [if_pos (by omega), xor_low M c]
    omega
  · rw [if_neg (by omega)]
    obtain ⟨K, rfl⟩ : ∃ K, M = K + 9223372036854775808 := ⟨M - 9223372036854775808, by omega⟩
    rw [← xor_low K (by omega), Nat.xor_assoc, Nat.xor_self, Nat.xor_zero, xor_low K (by omega)]
    omega

theorem xor_back (m : Int) (h0 : 0 ≤ m) (h1 : m ≤ 18446744073709551615) : IntKind.i64.wrap (bits .xor .u64 m 9223372036854775808) = m - 9223372036854775808 := by
  rw [xor_sign m h0 h1]
  simp only [IntKind.wrap, IntKind.signed, IntKind.bits]
  split <;> simp <;> omega

theorem xor_to (n : Int) (h0 : -9223372036854775808 ≤ n) (h1 : n ≤ 9223372036854775807) : bits .xor .u64 (IntKind.u64.wrap n) 9223372036854775808 = n + 9223372036854775808 := by
  by_cases c : n < 0
  · have e : IntKind.u64.wrap n = n + 18446744073709551616 := by
      simp only [IntKind.wrap, IntKind.signed, IntKind.bits]
      simp
      omega
    rw [e, xor_sign _ (by omega) (by omega), if_neg (by omega)]
    omega
  · have e : IntKind.u64.wrap n = n := by
      simp only [IntKind.wrap, IntKind.signed, IntKind.bits]
      simp
      omega
    rw [e, xor_sign _ (by omega) (by omega), if_pos (by omega)]

set_option maxHeartbeats 2000000 in
theorem refDecode_any (s : List Int) (hs : ∀ x ∈ s, 0 ≤ x ∧ x ≤ 255) (hm : s.length ≤ 1099511627776) (w : World) :
    Calls Try.prog 13 #[.string (strOfNums s)] w fun e w' => ∃ v', e = .returned (.tuple #[v', .int .i64 (decodeOf s).2]) ∧ OwnP w' w.heap.size 51 v' (decodeOf s).1 ∧ Below w.heap.size w w' := by
  have hsz := str_size s
  go_enter Try.func13, Try.ntmps13
  go_wp2
  go_loopw [4, 5] (fun vl i wr => ∃ (k : Nat) (a : List (Bool × Int × List Int)), k ≤ s.length ∧ i = .int .i64 k ∧ a.length ≤ k ∧ Hid (OwnP wr w.heap.size 51 vl a) ∧ Hid (decAux (s.drop k).length (s.drop k) a = decAll s) ∧ Hid (Below w.heap.size w wr)) (fun _ i _ => s.length - (intOf i).toNat)
  case atStart => exact ⟨0, [], Nat.zero_le _, rfl, by simp, OwnP.nil _ _ _, rfl, Below.refl _ _⟩
  case round =>
    obtain ⟨k, a, hk, rfl, hal, HW, HA, HB⟩ := hrel
    obtain ⟨ad, cap, rfl, hcap, hcm⟩ := HW.out.slice
    unfold maxLen at hcm
    have hzr := HB.out.size
    by_cases hlt : k < s.length
    · have hks : k < (strOfNums s).size := by omega
      have hy := str_at s hs k hks
      have hyb : 0 ≤ s.getD k 0 ∧ s.getD k 0 ≤ 255 := hs _ (by simp [List.getD, hlt])
      have hD := drop_getD s k hlt
      have hrl : (s.drop (k + 1)).length = s.length - (k + 1) := List.length_drop
      have hro : ∀ x ∈ s.drop (k + 1), 0 ≤ x ∧ x ≤ 255 := fun x hx => hs x (List.mem_of_mem_drop hx)
      have hrg : ∀ j, (s.drop (k + 1)).getD j 0 = s.getD (k + 1 + j) 0 := fun j => by simp [List.getD]
      have hall : ∀ x ∈ s.getD k 0 :: s.drop (k + 1), 0 ≤ x ∧ x ≤ 255 := by rw [← hD]; exact fun x hx => hs x (List.mem_of_mem_drop hx)
      have hdd : ∀ m, (s.getD k 0 :: s.drop (k + 1)).drop m = s.drop (k + m) := fun m => by rw [← hD, List.drop_drop]
      rw [hD] at HA
      have es : (strOfNums s).extract (k + 1) s.length = strOfNums (s.drop (k + 1)) := by
        rw [str_cut, List.take_of_length_le (by rw [List.length_drop]; omega)]
      generalize hr : s.drop (k + 1) = r at *
      generalize s.getD k 0 = y at *
      clear hD
      by_cases c1 : y = 17
      · subst c1
        by_cases c : r.length < 8
        · have h1 : firstOf (17 :: r) = (zeroP, 0, 8) := by simp [firstOf, c]
          have HD : Hid (decodeOf s = ([], 8)) := decode_of_bad (HA.out.symm.trans (dec_bad h1 (by decide))) (by decide)
          have hc' : (s.length : Int) - (k : Int) < 9 := by omega
          clear h1 HA hro hrg hall hdd
          go_wp2
          go_ret2
          rw [HD.out]
          exact ⟨_, rfl, OwnP.nil _ _ _, HB.out⟩
        · have h1 : firstOf (17 :: r) = ((true, acc 0 (r.take 8) - 9223372036854775808, []), 9, 0) := by simp [firstOf, c]
          have HA2 : Hid (decAux (s.drop (k + 9)).length (s.drop (k + 9)) (a ++ [(true, acc 0 (r.take 8) - 9223372036854775808, [])]) = decAll s) := by
            have := (dec_good (a := a) hall h1 (by omega)).trans HA.out
            rw [hdd 9] at this
            exact this
          have hc' : ¬ (s.length : Int) - (k : Int) < 9 := by omega
          have HRO : Hid (∀ x ∈ r, 0 ≤ x ∧ x ≤ 255) := hro
          have HRG : Hid (∀ j, r.getD j 0 = s.getD (k + 1 + j) 0) := hrg
          clear h1 HA hro hrg hall hdd
          go_wp2
          go_loopw [6, 7] (fun m i wq => ∃ j : Nat, j ≤ 8 ∧ i = .int .i64 ((j : Int) + 1) ∧ m = .int .u64 (acc 0 (r.take j)) ∧ wq = wr) (fun _ i _ => 9 - (intOf i).toNat)
          case atStart => exact ⟨0, Nat.zero_le _, rfl, rfl, rfl⟩
          case round =>
            obtain ⟨j, hj, rfl, rfl, rfl⟩ := hrel
            by_cases hjl : j < 8
            · have hks2 : k + (j + 1) < (strOfNums s).size := by omega
              have hz := str_at s hs (k + (j + 1)) hks2
              have e1 : s.getD (k + (j + 1)) 0 = r.getD j 0 := by rw [HRG.out j]; congr 1; omega
              rw [e1] at hz
              have hzb : 0 ≤ r.getD j 0 ∧ r.getD j 0 ≤ 255 := HRO.out _ (by simp [List.getD, (by omega : j < r.length)])
              have hab := acc_small (r.take j) (fun x hx => HRO.out x (List.mem_of_mem_take hx)) (by have := List.length_take_le j r; omega)
              have HAc : Hid (acc 0 (r.take (j + 1)) = acc 0 (r.take j) * 256 + r.getD j 0) := by unfold Hid; rw [take_snoc r j 0 (by omega), acc_snoc]
              have ho := or_join (acc 0 (r.take j)) (r.getD j 0) hab.1 hab.2 hzb.1 hzb.2
              obtain ⟨ha0, ha1⟩ := hab
              clear e1
              generalize acc 0 (r.take j) = M at *
              generalize r.getD j 0 = z at *
              go_wp2
              exact ⟨⟨j + 1, by omega, by go_num, by rw [HAc.out], trivial⟩, by simp [intOf]; omega⟩
            · obtain rfl : j = 8 := by omega
              have hab := acc_eight (r.take 8) (fun x hx => HRO.out x (List.mem_of_mem_take hx)) (by rw [List.length_take]; omega)
              have hw := xor_back _ hab.1 hab.2
              obtain ⟨ha0, ha1⟩ := hab
              generalize acc 0 (r.take 8) = M at *
              go_wp2_with (at_builtin; refine wpList_append_partN _ rfl _ _ 22 51 rfl Try.underlying22 Try.info51 w.heap.size _ a rfl HW.out (true, M - 9223372036854775808, []) wr.heap.size rfl rfl ?c1N ?c2N ?_)
              try case c1N => omega
              try case c2N => omega
              intro v3 w3 ho3 hb3
              have HW3 : Hid (OwnP w3 w.heap.size 51 v3 (a ++ [(true, M - 9223372036854775808, [])])) := ho3
              have HB3 : Hid (Below w.heap.size w w3) := HB.out.trans hb3
              have hal3 : (a ++ [(true, M - 9223372036854775808, ([] : List Int))]).length ≤ k + 9 := by simp; omega
              clear ho3 hb3 HW HB
              go_wp2
              exact ⟨⟨k + 9, _, by omega, by go_num, hal3, HW3, HA2, HB3⟩, by simp [intOf]; omega⟩
      · have c1b : (y == 17) = false := by simp [c1]
        by_cases c2 : y = 34
        · subst c2
          have hsh := txt_shift r.length r (Nat.le_refl _) [] 0
          have hF : firstOf (34 :: r) = ((false, 0, (txt [] 1 r).1), (txt [] 1 r).2.1, (txt [] 1 r).2.2) := by simp [firstOf]
          rw [Nat.zero_add] at hsh
          obtain ⟨s1, s2, s3, s4⟩ := hsh
          have HRO : Hid (∀ x ∈ r, 0 ≤ x ∧ x ≤ 255) := hro
          have hk1 : (k : Int) + 1 ≤ (s.length : Int) := by omega
          by_cases c : (txt [] 0 r).2.2 = 0
          · have hf := first_says 34 r hall
            rw [hF, s2, s1, s3 c, c] at hf
            obtain ⟨p, kk, h1, h2, h3⟩ : ∃ (p : Bool × Int × List Int) (kk : Nat), (((false, 0, (txt [] 0 r).1), (txt [] 0 r).2.1 + 1, 0) : (Bool × Int × List Int) × Nat × Int) = (p, kk, 0) ∧ 1 ≤ kk ∧ kk ≤ r.length + 1 := by
              rcases hf with ⟨e, h, h'⟩ | ⟨p, kk, h1, h2, h3, _⟩
              · exfalso
                have := congrArg (fun x => x.2.2) h
                simp only at this
                omega
              · exact ⟨p, kk, h1, h2, h3⟩
            simp only [Prod.mk.injEq, and_true] at h1
            obtain ⟨rfl, rfl⟩ := h1
            have HA2 : Hid (decAux (s.drop (k + ((txt [] 0 r).2.1 + 1))).length (s.drop (k + ((txt [] 0 r).2.1 + 1))) (a ++ [(false, 0, (txt [] 0 r).1)]) = decAll s) := by
              have hF2 : firstOf (34 :: r) = ((false, 0, (txt [] 0 r).1), (txt [] 0 r).2.1 + 1, 0) := by rw [hF, s1, s2, s3 c, c]
              have := (dec_good (a := a) hall hF2 (by omega)).trans HA.out
              rw [hdd] at this
              exact this
            have HC : Hid ((txt [] 0 r).2.2 = 0) := c
            clear hF hf HA hro hrg hall hdd s1 s2 s3 s4 c
            go_wp2_with fail
            refine (refText_any r HRO.out (by omega) _).mono ?_
            rintro e' w1 ⟨rfl, hb1⟩
            rw [HC.out]
            have HB1 : Hid (Below w.heap.size w w1) := up_trans HB.out hb1
            have HW1 : Hid (OwnP w1 w.heap.size 51 (.slice ad a.length cap) a) := HW.out.up hb1
            have hz1 := HB1.out.size
            generalize (txt [] 0 r).1 = T at *
            generalize (txt [] 0 r).2.1 = m at *
            clear hb1 HW HB HC
            go_wp2_with (at_builtin; refine wpList_append_partN _ rfl _ _ 22 51 rfl Try.underlying22 Try.info51 w.heap.size _ a rfl HW1.out (false, 0, T) w1.heap.size rfl rfl ?c1T ?c2T ?_)
            try case c1T => omega
            try case c2T => omega
            intro v3 w3 ho3 hb3
            have HW3 : Hid (OwnP w3 w.heap.size 51 v3 (a ++ [(false, 0, T)])) := ho3
            have HB3 : Hid (Below w.heap.size w w3) := HB1.out.trans hb3
            have hal3 : (a ++ [(false, (0 : Int), T)]).length ≤ k + (m + 1) := by simp; omega
            clear ho3 hb3 HW1 HB1
            go_wp2
            exact ⟨⟨k + (m + 1), _, by omega, by go_num, hal3, HW3, HA2, HB3⟩, by simp [intOf]; omega⟩
          · have hE := s4 c
            have HD : Hid (decodeOf s = ([], (txt [] 0 r).2.2)) := decode_of_bad (HA.out.symm.trans (by
              have := dec_bad (a := a) hF (by rw [s2]; exact c)
              rw [s2] at this
              exact this)) c
            have HE : Hid (txt [] 0 r = ([], 0, (txt [] 0 r).2.2)) := hE
            have cb : ((txt [] 0 r).2.2 == 0) = false := by simp [c]
            clear hF HA hro hrg hall hdd s1 s2 s3 s4 hE
            go_wp2_with fail
            refine (refText_any r HRO.out (by omega) _).mono ?_
            rintro e' w1 ⟨rfl, hb1⟩
            have HB1 : Hid (Below w.heap.size w w1) := up_trans HB.out hb1
            clear hb1
            go_wp2
            go_ret2
            rw [HD.out]
            exact ⟨_, rfl, OwnP.nil _ _ _, HB1.out⟩
        · have c2b : (y == 34) = false := by simp [c2]
          have h1 : firstOf (y :: r) = (zeroP, 0, 22) := by simp [firstOf, c1, c2]
          have HD : Hid (decodeOf s = ([], 22)) := decode_of_bad (HA.out.symm.trans (dec_bad h1 (by decide))) (by decide)
          clear h1 HA hro hrg hall hdd
          go_wp2
          go_ret2
          rw [HD.out]
          exact ⟨_, rfl, OwnP.nil _ _ _, HB.out⟩
    · have hE : decAll s = (a, 0) := by
        rw [← HA.out, List.drop_eq_nil_iff.2 (by omega)]
        exact dec_nil a
      have hD := decode_of_all hE
      by_cases c : 8 < a.length
      · rw [if_pos c] at hD
        have HD : Hid (decodeOf s = ([], 3)) := hD
        have c' : (8 : Int) < (a.length : Int) := by omega
        clear hE hD HA
        go_wp2
        go_ret2
        rw [HD.out]
        exact ⟨_, rfl, OwnP.nil _ _ _, HB.out⟩
      · rw [if_neg c] at hD
        have HD : Hid (decodeOf s = (a, 0)) := hD
        have c' : ¬ (8 : Int) < (a.length : Int) := by omega
        clear hE hD HA
        go_wp2
        go_ret2
        rw [HD.out]
        exact ⟨_, rfl, HW.out, HB.out⟩
end Go.Proofs.Ytjnbjooagdgfpaa
