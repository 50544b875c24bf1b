/- The program's smallest functions: has, least, whole, number, dayFits, the rule as arrays. -/
import Derived.Test.YtpjmieiajhhbaaaDoorNCheck
import Derived.Lib.TrailingZeros
namespace Go.Proofs.YtpjmieiajhhbaaaDoor
open Go.RowKit
set_option linter.unusedVariables false
set_option linter.unusedSimpArgs false

theorem hasP_any (s k : Nat) (hs : s < 18446744073709551616) (hk : k < 64) (w : World) : Calls Tryd.prog 93 #[.int .u64 (s : Int), .int .i64 (k : Int)] w fun e w' => e = .returned (.bool (s.testBit k)) ∧ w' = w := by
  have e := hid (has_test s k hs)
  go_enter Tryd.func93, Tryd.ntmps93
  go_wp2
  go_ret
  exact ⟨ret_bool e.out, rfl⟩
/-! ### the lowest bit -/
theorem debru_key (x a : Nat) (hx : x < 18446744073709551616) (hx0 : x ≠ 0) (hlow : x &&& (18446744073709551616 - x) = a) :
    IntKind.u64.wrap (bits BinOp.and IntKind.u64 (x : Int) (IntKind.u64.wrap (-(x : Int))) * 285870213051353865) / 288230376151711744 = ((a * 285870213051353865 % 18446744073709551616 / 288230376151711744 : Nat) : Int) := by
  have e1 : IntKind.u64.wrap (-(x : Int)) = ((18446744073709551616 - x : Nat) : Int) := by rw [IntKind.wrap_u64]; omega
  rw [e1, bit_and x _ hx (by omega), hlow, IntKind.wrap_u64]
  omega
set_option maxHeartbeats 1000000 in
theorem tz_core (x k idx : Nat) (w : World) (hx0 : ((x : Int) == 0) = false)
    (key : IntKind.u64.wrap (bits BinOp.and IntKind.u64 (x : Int) (IntKind.u64.wrap (-(x : Int))) * 285870213051353865) / 288230376151711744 = (idx : Int))
    (hi : idx < 64) (hk : k < 64) (hcell : w.cell? ⟨2, idx, none⟩ = some (.int .u8 k)) :
    Calls Tryd.prog 104 #[.int .u64 (x : Int)] w fun e w' => e = .returned (.int .i64 k) ∧ w' = w := by
  go_enter Tryd.func104, Tryd.ntmps104
  go_wp2
  go_ret
  exact ⟨rfl, rfl⟩
theorem tz_zero (w : World) : Calls Tryd.prog 104 #[.int .u64 0] w fun e w' => e = .returned (.int .i64 64) ∧ w' = w := by
  go_enter Tryd.func104, Tryd.ntmps104
  go_wp2
  go_ret
  exact ⟨rfl, rfl⟩
theorem tz_any (x : Nat) (hx : x < 18446744073709551616) (w : World) (he : Env w) : Calls Tryd.prog 104 #[.int .u64 (x : Int)] w fun e w' => e = .returned (.int .i64 (Lib.ctz 64 x : Nat)) ∧ w' = w := by
  by_cases h0 : x = 0
  · subst h0
    exact tz_zero w
  · obtain ⟨hlow, hk⟩ := Lib.lowest_bit 64 x h0 hx
    obtain ⟨hi, htab⟩ := Lib.deBruijn64_at _ hk
    have hcell := he.deb _ hi
    rw [htab] at hcell
    exact tz_core x _ _ w (by simp; omega) (debru_key x _ hx h0 hlow) hi hk hcell
/-- A set's numbers from one on. -/
def restN (s k : Nat) : Nat := s / 2 ^ k * 2 ^ k
def leastN (s k : Nat) : Nat := Lib.ctz 64 (restN s k)
def leastB (s k : Nat) : Bool := !(restN s k == 0)
theorem restN_le (s k : Nat) : restN s k ≤ s := Nat.div_mul_le_self s _
theorem restN_bit (s k j : Nat) : (restN s k).testBit j = (decide (k ≤ j) && s.testBit j) := by
  unfold restN
  rw [← Nat.shiftRight_eq_div_pow, ← Nat.shiftLeft_eq, Nat.testBit_shiftLeft, Nat.testBit_shiftRight]
  by_cases h : k ≤ j
  · have : k + (j - k) = j := by omega
    simp [h, this]
  · simp [h]
/-- What the least number is: it is in the set, and none ahead of it; or there is none. -/
theorem least_spec (s k : Nat) (hs : s < 18446744073709551616) :
    (leastB s k = true ∧ k ≤ leastN s k ∧ leastN s k < 64 ∧ s.testBit (leastN s k) = true ∧ ∀ j, k ≤ j → j < leastN s k → s.testBit j = false) ∨ (leastB s k = false ∧ leastN s k = 64 ∧ ∀ j, k ≤ j → s.testBit j = false) := by
  have hr : restN s k < 2 ^ 64 := Nat.lt_of_le_of_lt (restN_le s k) hs
  by_cases h0 : restN s k = 0
  · right
    refine ⟨by unfold leastB; rw [h0]; rfl, by unfold leastN Lib.ctz; rw [if_pos h0], fun j hj => ?_⟩
    have := restN_bit s k j
    rw [h0, Nat.zero_testBit, decide_eq_true hj, Bool.true_and] at this
    exact this.symm
  · left
    obtain ⟨m, hm, hlt⟩ := Lib.ctzFrom_spec 64 (restN s k) (by omega) hr
    have e : leastN s k = Lib.ctzFrom 64 (restN s k) := if_neg h0
    rw [← e] at hm hlt
    have bit : ∀ j, (restN s k).testBit j = (decide (leastN s k ≤ j) && (2 * m + 1).testBit (j - leastN s k)) := by
      intro j
      rw [hm, Nat.mul_comm, ← Nat.shiftLeft_eq, Nat.testBit_shiftLeft]
    have b1 := bit (leastN s k)
    rw [Nat.sub_self, Nat.testBit_zero, restN_bit] at b1
    have b2 : (decide (k ≤ leastN s k) && s.testBit (leastN s k)) = true := by
      rw [b1]
      simp
    rw [Bool.and_eq_true, decide_eq_true_eq] at b2
    refine ⟨by unfold leastB; simpa using h0, b2.1, hlt, b2.2, fun j h1 h2 => ?_⟩
    have := bit j
    rw [restN_bit, decide_eq_true h1, Bool.true_and, decide_eq_false (by omega), Bool.false_and] at this
    exact this
theorem shl_wrap (s k : Nat) (hs : s < 18446744073709551616) : IntKind.u64.wrap (((s : Int) / 2 ^ k) * 2 ^ k) = ((restN s k : Nat) : Int) := by
  have h := restN_le s k
  rw [IntKind.wrap_u64]
  have e : ((s : Int) / 2 ^ k) * 2 ^ k = ((restN s k : Nat) : Int) := by unfold restN; simp
  rw [e]
  generalize restN s k = x at *
  omega
set_option maxHeartbeats 1000000 in
theorem least_any (s k : Nat) (hs : s < 18446744073709551616) (hk : k ≤ 64) (w : World) (he : Env w) : Calls Tryd.prog 94 #[.int .u64 (s : Int), .int .i64 (k : Int)] w fun e w' => e = .returned (.tuple #[.int .i64 (leastN s k : Nat), .bool (leastB s k)]) ∧ w' = w := by
  have sw := shl_wrap s k hs
  have HT := hid (tz_any (restN s k) (Nat.lt_of_le_of_lt (restN_le s k) hs) w he)
  have E : Hid (leastN s k = Lib.ctz 64 (restN s k)) := rfl
  have B : Hid (((restN s k : Int) != 0) = leastB s k) := bne_nat (restN s k) 0
  clear he hs
  generalize restN s k = x at *
  generalize Lib.ctz 64 x = y at *
  go_enter Tryd.func94, Tryd.ntmps94
  go_wp2_with fail
  refine HT.out.mono ?_
  rintro e w1 ⟨rfl, rfl⟩
  go_wp2_with fail
  go_ret2
  exact ⟨by rw [E.out, ← B.out]; rfl, rfl⟩
/-! ### numbers -/
def numQ (l : List Int) : Int × Bool := if numD l < 0 then (0, false) else (numD l, true)
set_option maxHeartbeats 1000000 in
theorem number_any (l : List Int) (hx : ∀ x ∈ l, 0 ≤ x ∧ x ≤ 255) (hm : l.length ≤ 140737488355328) (w : World) :
    Calls Tryd.prog 103 #[.string (strOfNums l)] w fun e w' => e = .returned (.tuple #[.int .i64 (numQ l).1, .bool (numQ l).2]) ∧ w' = w := by
  have hsz := strOfNums_size l
  by_cases h : l.length = 1 ∨ l.length = 2
  · have hat := fun k h => str_at l hx k h
    match l, h with
    | [a], _ =>
      have ha : 0 ≤ a ∧ a ≤ 255 := hx a (by simp)
      have h0 : 0 < (strOfNums [a]).size := by rw [hsz]; simp
      have e0 : (((strOfNums [a])[0]'h0).toNat : Int) = a := hat 0 h0
      have hsz : (strOfNums [a]).size = 1 := hsz
      have E : Hid (numD [a] = if isD a then a - 48 else -1) := rfl
      clear hat hx hm
      generalize strOfNums [a] = S at *
      by_cases q : isD a = true
      · have hq := isD_iff.1 q
        obtain ⟨q0, q1⟩ := hq
        have n0 : ¬ a < 48 := by omega
        have n1 : ¬ 57 < a := by omega
        have E2 : Hid (numQ [a] = (a - 48, true)) := by
          have := E.out.trans (if_pos q)
          unfold Hid numQ
          rw [this, if_neg (by omega)]
        go_enter Tryd.func103, Tryd.ntmps103
        go_wp2_with fail
        refine wp_loop_rounds 2 ?_
        rw [rounds_succ]
        go_wp2
        rw [rounds_succ]
        go_wp2
        go_ret2
        exact ⟨by rw [E2.out]; rfl, rfl⟩
      · have E2 : Hid (numQ [a] = (0, false)) := by
          have := E.out.trans (if_neg q)
          unfold Hid numQ
          rw [this, if_pos (by omega)]
        have hq : a < 48 ∨ 57 < a := by have := mt isD_iff.2 q; omega
        go_enter Tryd.func103, Tryd.ntmps103
        go_wp2_with fail
        refine wp_loop_rounds 2 ?_
        rw [rounds_succ]
        by_cases c : a < 48
        · go_wp2
          go_ret2
          exact ⟨by rw [E2.out]; rfl, rfl⟩
        · have c2 : 57 < a := by omega
          go_wp2
          go_ret2
          exact ⟨by rw [E2.out]; rfl, rfl⟩
    | [a, b], _ =>
      have ha : 0 ≤ a ∧ a ≤ 255 := hx a (by simp)
      have hb : 0 ≤ b ∧ b ≤ 255 := hx b (by simp)
      have h0 : 0 < (strOfNums [a, b]).size := by rw [hsz]; simp
      have h1 : 1 < (strOfNums [a, b]).size := by rw [hsz]; simp
      have e0 : (((strOfNums [a, b])[0]'h0).toNat : Int) = a := hat 0 h0
      have e1 : (((strOfNums [a, b])[1]'h1).toNat : Int) = b := hat 1 h1
      have hsz : (strOfNums [a, b]).size = 2 := hsz
      have E : Hid (numD [a, b] = if isD a && isD b then 10 * (a - 48) + (b - 48) else -1) := rfl
      clear hat hx hm
      generalize strOfNums [a, b] = S at *
      by_cases q : isD a = true
      · have hq := isD_iff.1 q
        obtain ⟨q0, q1⟩ := hq
        have n0 : ¬ a < 48 := by omega
        have n1 : ¬ 57 < a := by omega
        by_cases r : isD b = true
        · have hr := isD_iff.1 r
          obtain ⟨r0, r1⟩ := hr
          have m0 : ¬ b < 48 := by omega
          have m1 : ¬ 57 < b := by omega
          have E2 : Hid (numQ [a, b] = (10 * (a - 48) + (b - 48), true)) := by
            have := E.out.trans (if_pos (by rw [q, r]; rfl))
            unfold Hid numQ
            rw [this, if_neg (by omega)]
          go_enter Tryd.func103, Tryd.ntmps103
          go_wp2_with fail
          refine wp_loop_rounds 3 ?_
          rw [rounds_succ]
          go_wp2
          rw [rounds_succ]
          go_wp2
          rw [rounds_succ]
          go_wp2
          go_ret2
          exact ⟨by rw [E2.out]; rfl, rfl⟩
        · have E2 : Hid (numQ [a, b] = (0, false)) := by
            have := E.out.trans (if_neg (by rw [q, Bool.true_and]; exact r))
            unfold Hid numQ
            rw [this, if_pos (by omega)]
          have hq : b < 48 ∨ 57 < b := by have := mt isD_iff.2 r; omega
          go_enter Tryd.func103, Tryd.ntmps103
          go_wp2_with fail
          refine wp_loop_rounds 2 ?_
          rw [rounds_succ]
          go_wp2
          rw [rounds_succ]
          by_cases c : b < 48
          · go_wp2
            go_ret2
            exact ⟨by rw [E2.out]; rfl, rfl⟩
          · have c2 : 57 < b := by omega
            go_wp2
            go_ret2
            exact ⟨by rw [E2.out]; rfl, rfl⟩
      · have E2 : Hid (numQ [a, b] = (0, false)) := by
          have := E.out.trans (if_neg (by rw [Bool.and_eq_true]; exact fun z => q z.1))
          unfold Hid numQ
          rw [this, if_pos (by omega)]
        have hq : a < 48 ∨ 57 < a := by have := mt isD_iff.2 q; omega
        go_enter Tryd.func103, Tryd.ntmps103
        go_wp2_with fail
        refine wp_loop_rounds 2 ?_
        rw [rounds_succ]
        by_cases c : a < 48
        · go_wp2
          go_ret2
          exact ⟨by rw [E2.out]; rfl, rfl⟩
        · have c2 : 57 < a := by omega
          go_wp2
          go_ret2
          exact ⟨by rw [E2.out]; rfl, rfl⟩
  · have E : Hid (numQ l = (0, false)) := by
      have : numD l = -1 := by
        match l, h with
        | [], _ => rfl
        | [a], h => exact absurd (Or.inl rfl) h
        | [a, b], h => exact absurd (Or.inr rfl) h
        | _ :: _ :: _ :: _, _ => rfl
      unfold Hid numQ
      rw [this, if_pos (by omega)]
    have hl : (l.length : Int) < 1 ∨ 2 < (l.length : Int) := by omega
    go_enter Tryd.func103, Tryd.ntmps103
    by_cases c : (l.length : Int) < 1
    · go_wp2
      go_ret2
      exact ⟨by rw [E.out]; rfl, rfl⟩
    · have c2 : 2 < (l.length : Int) := by omega
      go_wp2
      go_ret2
      exact ⟨by rw [E.out]; rfl, rfl⟩
/-! ### a field's whole set -/
theorem whole_any (i : Nat) (hi : i < 5) (w : World) (he : Env w) : Calls Tryd.prog 92 #[.int .i64 (i : Int)] w fun e w' => e = .returned (.int .u64 (wholes.getD i 0 : Nat)) ∧ Below w.heap.size w w' := by
  have l0 := he.lo 0 0 rfl
  have l1 := he.lo 1 0 rfl
  have l2 := he.lo 2 1 rfl
  have l3 := he.lo 3 1 rfl
  have l4 := he.lo 4 0 rfl
  have h0 := he.hi 0 59 rfl
  have h1 := he.hi 1 23 rfl
  have h2 := he.hi 2 31 rfl
  have h3 := he.hi 3 12 rfl
  have h4 := he.hi 4 6 rfl
  clear he
  match i, hi with
  | 0, _ =>
    go_enter Tryd.func92, Tryd.ntmps92
    go_wp2_with fail
    go_quiet (fail)
    go_wp2_with fail
    go_ret
    exact ⟨by rfl, up_drewN _ _⟩
  | 1, _ =>
    go_enter Tryd.func92, Tryd.ntmps92
    go_wp2_with fail
    go_quiet (fail)
    go_wp2_with fail
    go_ret
    exact ⟨by rfl, up_drewN _ _⟩
  | 2, _ =>
    go_enter Tryd.func92, Tryd.ntmps92
    go_wp2_with fail
    go_quiet (fail)
    go_wp2_with fail
    go_ret
    exact ⟨by rfl, up_drewN _ _⟩
  | 3, _ =>
    go_enter Tryd.func92, Tryd.ntmps92
    go_wp2_with fail
    go_quiet (fail)
    go_wp2_with fail
    go_ret
    exact ⟨by rfl, up_drewN _ _⟩
  | 4, _ =>
    go_enter Tryd.func92, Tryd.ntmps92
    go_wp2_with fail
    go_quiet (fail)
    go_wp2_with fail
    go_ret
    exact ⟨by rfl, up_drewN _ _⟩
end Go.Proofs.YtpjmieiajhhbaaaDoor
