/- Backoff, both sides. -/
import Derived.Test.YtpjmieiajhhbaaaDoorGA
import Derived.Test.YtpjmieiajhhbaaaDoorCLeaf

/- Delays, plainly. -/
namespace Go.Proofs.YtpjmieiajhhbaaaDoor
set_option linter.unusedVariables false

def LimOk (b c n : Int) : Prop := 1 ≤ b ∧ b ≤ 1048576 ∧ b ≤ c ∧ c ≤ 1073741824 ∧ 1 ≤ n ∧ n ≤ 16
instance (b c n : Int) : Decidable (LimOk b c n) := inferInstanceAs (Decidable (_ ∧ _))
def chkP (b c n : Int) : Int := if LimOk b c n then 0 else 4
/-- The delay behind k failures. -/
def delN (b c : Int) (k : Nat) : Int := if b * 2 ^ k < c then b * 2 ^ k else c
def delayP (b c n k : Int) : Int × Int := if LimOk b c n ∧ 0 ≤ k then (delN b c k.toNat, 0) else (0, 4)
def dueP (b c n now k : Int) : Int × Int := if (LimOk b c n ∧ 0 ≤ k) ∧ 0 ≤ now ∧ now + delN b c k.toNat < 32503680000 then (now + delN b c k.toNat, 0) else (0, 4)
def sumD (b c : Int) : Nat → Int
  | 0 => 0
  | k + 1 => sumD b c k + delN b c k
def totalP (b c n : Int) : Int × Int := if LimOk b c n then (sumD b c (n - 1).toNat, 0) else (0, 4)
theorem pow_step (b : Int) (k : Nat) : b * 2 ^ (k + 1) = 2 * (b * 2 ^ k) := by
  rw [Int.pow_succ, Int.mul_comm (2 ^ k) 2, Int.mul_left_comm]
theorem pow_up {b : Int} (h : 1 ≤ b) (k j : Nat) : b * 2 ^ k ≤ b * 2 ^ (k + j) := by
  induction j with
  | zero => exact Int.le_refl _
  | succ j ih =>
    rw [← Nat.add_assoc, pow_step]
    have h0 : 0 ≤ b * 2 ^ (k + j) := Int.mul_nonneg (by omega) (Int.le_of_lt (Int.pow_pos (by decide)))
    omega
theorem pow_one {b : Int} (h : 1 ≤ b) (k : Nat) : 1 ≤ b * 2 ^ k := by
  have := pow_up h 0 k
  rw [Nat.zero_add] at this
  simp at this
  omega
theorem delN_le {b c n : Int} (h : LimOk b c n) (k : Nat) : b ≤ delN b c k ∧ delN b c k ≤ c := by
  obtain ⟨h1, h2, h3, h4, h5, h6⟩ := h
  have := pow_up h1 0 k
  rw [Nat.zero_add] at this
  simp at this
  unfold delN
  split <;> omega
theorem delN_step {b c n : Int} (h : LimOk b c n) (k : Nat) : delN b c k ≤ delN b c (k + 1) ∧ (delN b c (k + 1) = 2 * delN b c k ∨ delN b c (k + 1) = c) := by
  obtain ⟨h1, h2, h3, h4, h5, h6⟩ := h
  have h0 := pow_one h1 k
  unfold delN
  rw [pow_step]
  split <;> split <;> omega
theorem delN_zero {b c n : Int} (h : LimOk b c n) : delN b c 0 = b := by
  obtain ⟨h1, h2, h3, h4, h5, h6⟩ := h
  unfold delN
  simp
  omega
/-- Behind the 31st failure it is the cap. -/
theorem delN_far {b c n : Int} (h : LimOk b c n) (k : Nat) (hk : 31 ≤ k) : delN b c k = c := by
  obtain ⟨h1, h2, h3, h4, h5, h6⟩ := h
  unfold delN
  rw [if_neg]
  have h0 := pow_up h1 31 (k - 31)
  rw [show 31 + (k - 31) = k by omega] at h0
  have : b * 2 ^ 31 = b * 2147483648 := rfl
  omega
theorem few {b c n : Int} (h : LimOk b c n) {j : Nat} (hj : b * 2 ^ j < c) : j < 31 := by
  by_cases q : j < 31
  · exact q
  · have := delN_far h j (by omega)
    unfold delN at this
    rw [if_pos hj] at this
    omega
theorem sumD_le {b c n : Int} (h : LimOk b c n) (k : Nat) : 0 ≤ sumD b c k ∧ sumD b c k ≤ 1073741824 * k := by
  induction k with
  | zero => exact ⟨Int.le_refl _, by simp [sumD]⟩
  | succ k ih =>
    have := delN_le h k
    obtain ⟨h1, h2, h3, h4, h5, h6⟩ := h
    simp only [sumD]
    omega
end Go.Proofs.YtpjmieiajhhbaaaDoor

/- The document's calls on delays. -/
namespace Go.Proofs.YtpjmieiajhhbaaaDoor
open Go.RowKit
set_option linter.unusedVariables false
set_option linter.unusedSimpArgs false

def limV (b c n : Int) : Value := .agg #[.int .i64 b, .int .i64 c, .int .i64 n]
def retD (q : Int × Int) : Value := .tuple #[.int .i64 q.1, .int .i64 q.2]
theorem checkB_any (b c n : Int) (w : World) : Calls Tryd.prog 23 #[limV b c n] w fun e w' => e = .returned (.int .i64 (chkP b c n)) ∧ Below w.heap.size w w' := by
  have u := hid (up_alloc w (.cells #[.int .i64 b, .int .i64 c, .int .i64 n] 40))
  unfold limV
  go_enter Tryd.func23, Tryd.ntmps23
  by_cases h : LimOk b c n
  · have R : Hid (chkP b c n = 0) := if_pos h
    obtain ⟨h1, h2, h3, h4, h5, h6⟩ := h
    have q0 : ¬ b < 1 := by omega
    have q1 : ¬ 1048576 < b := by omega
    have q2 : ¬ c < b := by omega
    have q3 : ¬ 1073741824 < c := by omega
    have q4 : ¬ n < 1 := by omega
    have q5 : ¬ 16 < n := by omega
    go_wp2_with fail
    go_ret
    exact ⟨by rw [R.out] <;> rfl, u.out⟩
  · have R : Hid (chkP b c n = 4) := if_neg h
    by_cases q0 : b < 1
    · go_wp2_with fail
      go_ret
      exact ⟨by rw [R.out] <;> rfl, u.out⟩
    by_cases q1 : 1048576 < b
    · go_wp2_with fail
      go_ret
      exact ⟨by rw [R.out] <;> rfl, u.out⟩
    by_cases q2 : c < b
    · go_wp2_with fail
      go_ret
      exact ⟨by rw [R.out] <;> rfl, u.out⟩
    by_cases q3 : 1073741824 < c
    · go_wp2_with fail
      go_ret
      exact ⟨by rw [R.out] <;> rfl, u.out⟩
    by_cases q4 : n < 1
    · go_wp2_with fail
      go_ret
      exact ⟨by rw [R.out] <;> rfl, u.out⟩
    have q5 : 16 < n := by unfold LimOk at h; omega
    go_wp2_with fail
    go_ret
    exact ⟨by rw [R.out] <;> rfl, u.out⟩
set_option maxHeartbeats 1000000 in
theorem delayB_any (b c n k : Int) (w : World) : Calls Tryd.prog 25 #[limV b c n, .int .i64 k] w fun e w' => e = .returned (retD (delayP b c n k)) ∧ Below w.heap.size w w' := by
  have HC : Hid (∀ w', Calls Tryd.prog 23 #[limV b c n] w' fun e w'' => e = .returned (.int .i64 (chkP b c n)) ∧ Below w'.heap.size w' w'') := fun w' => checkB_any b c n w'
  have k0 := hid (blk_new w (.cells #[.int .i64 b, .int .i64 c, .int .i64 n] 40))
  have u0 := hid (up_alloc w (.cells #[.int .i64 b, .int .i64 c, .int .i64 n] 40))
  unfold limV at *
  by_cases h : LimOk b c n
  · have hc : chkP b c n = 0 := if_pos h
    rw [hc] at HC
    clear hc
    by_cases hk : 0 ≤ k
    · have R : Hid (delayP b c n k = (delN b c k.toNat, 0)) := if_pos ⟨h, hk⟩
      have LO := hid h
      obtain ⟨h1, h2, h3, h4, h5, h6⟩ := h
      have hk' : ¬ k < 0 := by omega
      go_enter Tryd.func25, Tryd.ntmps25
      go_wp2_with fail
      refine (HC.out _).mono ?_
      rintro e w1 ⟨rfl, hb1⟩
      have k1 := blk_up k0.out hb1
      have u1 := hid (up_trans u0.out hb1)
      have z0 := blk_cell k1 0 _ rfl
      have z1 := blk_cell k1 1 _ rfl
      clear k0 u0 hb1 k1 HC
      go_wp2_with fail
      go_loopw [7, 6] (fun i d wr => ∃ j : Nat, (j : Int) ≤ k ∧ i = .int .i64 (j : Int) ∧ d = .int .i64 (b * 2 ^ j) ∧ Hid (b * 2 ^ j < 2 * c) ∧ w1 = wr) (fun i _ _ => (k - intOf i).toNat)
      case atStart => exact ⟨0, by omega, rfl, by simp, (show b * 2 ^ 0 < 2 * c by simp; omega), rfl⟩
      case round =>
        obtain ⟨j, hj, rfl, rfl, HD, rfl⟩ := hrel
        have hd1 := pow_one h1 j
        have hd2 := HD.out
        have HS := hid (pow_step b j)
        have HU : Hid (∀ i : Nat, b * 2 ^ j ≤ b * 2 ^ (j + i)) := fun i => pow_up h1 j i
        obtain ⟨d, hd⟩ : ∃ d, d = b * 2 ^ j := ⟨_, rfl⟩
        rw [← hd] at hd1 hd2 HS HU ⊢
        have HE := hid hd
        clear hd HD
        by_cases c1 : (j : Int) < k
        · by_cases c2 : d < c
          · have hf : j < 31 := few LO.out (by rw [← HE.out]; exact c2)
            go_wp2_with fail
            exact ⟨⟨j + 1, by omega, by go_num, by rw [HS.out], (show b * 2 ^ (j + 1) < 2 * c by rw [HS.out]; omega), by first | rfl | trivial⟩, by simp [intOf]; omega⟩
          · have RR : Hid (delN b c k.toNat = c) := by
              unfold Hid delN
              rw [if_neg]
              have := HU.out (k.toNat - j)
              rw [show j + (k.toNat - j) = k.toNat by omega] at this
              omega
            have c3 : c ≤ d := by omega
            go_wp2_with fail
            · go_ret2
              exact ⟨by rw [R.out, RR.out] <;> rfl, u1.out⟩
            · have e : d = c := by omega
              go_ret2
              exact ⟨by rw [R.out, RR.out, ← e] <;> rfl, u1.out⟩
        · have RR : Hid (delN b c k.toNat = if d < c then d else c) := by
            unfold Hid delN
            rw [HE.out, show k.toNat = j by omega]
          by_cases c2 : d < c
          · rw [if_pos c2] at RR
            go_wp2_with fail
            go_ret2
            exact ⟨by rw [R.out, RR.out]; first | rfl | simp [retD], u1.out⟩
          · rw [if_neg c2] at RR
            have c3 : c ≤ d := by omega
            go_wp2_with fail
            · go_ret2
              exact ⟨by rw [R.out, RR.out] <;> rfl, u1.out⟩
            · have e : d = c := by omega
              go_ret2
              exact ⟨by rw [R.out, RR.out, ← e] <;> rfl, u1.out⟩
    · have R : Hid (delayP b c n k = (0, 4)) := if_neg fun q => hk q.2
      have hk' : k < 0 := by omega
      go_enter Tryd.func25, Tryd.ntmps25
      go_wp2_with fail
      refine (HC.out _).mono ?_
      rintro e w1 ⟨rfl, hb1⟩
      have u1 := hid (up_trans u0.out hb1)
      go_wp2_with fail
      go_ret2
      exact ⟨by rw [R.out]; rfl, u1.out⟩
  · have hc : chkP b c n = 4 := if_neg h
    have R : Hid (delayP b c n k = (0, 4)) := if_neg fun q => h q.1
    rw [hc] at HC
    clear hc
    go_enter Tryd.func25, Tryd.ntmps25
    go_wp2_with fail
    refine (HC.out _).mono ?_
    rintro e w1 ⟨rfl, hb1⟩
    have u1 := hid (up_trans u0.out hb1)
    go_wp2_with fail
    go_ret2
    exact ⟨by rw [R.out]; rfl, u1.out⟩
end Go.Proofs.YtpjmieiajhhbaaaDoor

/- The document's dues and totals. -/
namespace Go.Proofs.YtpjmieiajhhbaaaDoor
open Go.RowKit
set_option linter.unusedVariables false
set_option linter.unusedSimpArgs false

theorem retD_form (x y : Int) : retD (x, y) = .tuple #[.int .i64 x, .int .i64 y] := rfl
theorem dueB_any (b c n now k : Int) (w : World) : Calls Tryd.prog 45 #[limV b c n, .int .i64 now, .int .i64 k] w fun e w' => e = .returned (retD (dueP b c n now k)) ∧ Below w.heap.size w w' := by
  have HD : Hid (∀ w', Calls Tryd.prog 25 #[limV b c n, .int .i64 k] w' fun e w'' => e = .returned (retD (delayP b c n k)) ∧ Below w'.heap.size w' w'') := fun w' => delayB_any b c n k w'
  have u0 := hid (up_alloc w (.cells #[.int .i64 b, .int .i64 c, .int .i64 n] 40))
  by_cases h : LimOk b c n ∧ 0 ≤ k
  · have E : delayP b c n k = (delN b c k.toNat, 0) := if_pos h
    rw [E, retD_form] at HD
    have L := delN_le h.1 k.toNat
    have h1 := h.1.1
    have h4 := h.1.2.2.2.1
    have P : Hid (dueP b c n now k = if 0 ≤ now ∧ now + delN b c k.toNat < 32503680000 then (now + delN b c k.toNat, 0) else (0, 4)) := by
      unfold Hid dueP
      by_cases q : 0 ≤ now ∧ now + delN b c k.toNat < 32503680000
      · rw [if_pos ⟨h, q⟩, if_pos q]
      · rw [if_neg fun x => q x.2, if_neg q]
    obtain ⟨d, hd⟩ : ∃ d, d = delN b c k.toNat := ⟨_, rfl⟩
    rw [← hd] at HD L P
    clear hd E h
    unfold limV at *
    go_enter Tryd.func45, Tryd.ntmps45
    go_wp2_with fail
    refine (HD.out _).mono ?_
    rintro e w1 ⟨rfl, hb1⟩
    have u1 := hid (up_trans u0.out hb1)
    by_cases n1 : now < 0
    · have R : Hid (dueP b c n now k = (0, 4)) := P.out.trans (if_neg (by omega))
      go_wp2_with fail
      go_ret2
      exact ⟨by rw [R.out] <;> rfl, u1.out⟩
    · by_cases n2 : 32503680000 ≤ now
      · have R : Hid (dueP b c n now k = (0, 4)) := P.out.trans (if_neg (by omega))
        go_wp2_with fail
        go_ret2
        exact ⟨by rw [R.out] <;> rfl, u1.out⟩
      · by_cases n3 : 32503680000 - now ≤ d
        · have R : Hid (dueP b c n now k = (0, 4)) := P.out.trans (if_neg (by omega))
          go_wp2_with fail
          go_ret2
          exact ⟨by rw [R.out] <;> rfl, u1.out⟩
        · have R : Hid (dueP b c n now k = (now + d, 0)) := P.out.trans (if_pos (by omega))
          go_wp2_with fail
          go_ret2
          exact ⟨by rw [R.out] <;> rfl, u1.out⟩
  · have E : delayP b c n k = (0, 4) := if_neg h
    have R : Hid (dueP b c n now k = (0, 4)) := if_neg fun x => h x.1
    rw [E, retD_form] at HD
    clear h E
    unfold limV at *
    go_enter Tryd.func45, Tryd.ntmps45
    go_wp2_with fail
    refine (HD.out _).mono ?_
    rintro e w1 ⟨rfl, hb1⟩
    have u1 := hid (up_trans u0.out hb1)
    go_wp2_with fail
    go_ret2
    exact ⟨by rw [R.out] <;> rfl, u1.out⟩
end Go.Proofs.YtpjmieiajhhbaaaDoor

/- The program's check and its k-th delay. -/
namespace Go.Proofs.YtpjmieiajhhbaaaDoor
open Go.RowKit
set_option linter.unusedVariables false
set_option linter.unusedSimpArgs false

theorem three (a b c : Int) : (¬ a ≤ b) ∨ (a ≤ b ∧ ¬ b ≤ c) ∨ (a ≤ b ∧ b ≤ c) := by omega
set_option maxHeartbeats 4000000 in
theorem checkE_any (b c n : Int) (w : World) : Calls Tryd.prog 24 #[limV b c n] w fun e w' => e = .returned (.int .i64 (chkP b c n)) ∧ Below w.heap.size w w' := by
  have u := hid (up_alloc w (.cells #[.int .i64 b, .int .i64 c, .int .i64 n] 44))
  have RN : ¬ LimOk b c n → Hid (chkP b c n = 4) := fun h => if_neg h
  have RY : LimOk b c n → Hid (chkP b c n = 0) := fun h => if_pos h
  unfold LimOk at RN RY
  unfold limV
  go_enter Tryd.func24, Tryd.ntmps24
  rcases three 1 b 1048576 with q0 | ⟨q0, q1⟩ | ⟨q0, q1⟩ <;> rcases three b c 1073741824 with q2 | ⟨q2, q3⟩ | ⟨q2, q3⟩ <;> rcases three 1 n 16 with q4 | ⟨q4, q5⟩ | ⟨q4, q5⟩
  all_goals first
    | (have R := RN (by omega)
       clear RN RY
       go_wp2_with fail
       go_ret
       exact ⟨by rw [R.out] <;> rfl, u.out⟩)
    | (have R := RY (by omega)
       clear RN RY
       go_wp2_with fail
       go_ret
       exact ⟨by rw [R.out] <;> rfl, u.out⟩)
end Go.Proofs.YtpjmieiajhhbaaaDoor

/- The program's k-th delay. -/
namespace Go.Proofs.YtpjmieiajhhbaaaDoor
open Go.RowKit
set_option linter.unusedVariables false
set_option linter.unusedSimpArgs false

set_option maxHeartbeats 1000000 in
theorem delE_any (b c n : Int) (h : LimOk b c n) (k : Nat) (hk : k ≤ 9223372036854775807) (w : World) : Calls Tryd.prog 79 #[limV b c n, .int .i64 (k : Int)] w fun e w' => e = .returned (.int .i64 (delN b c k)) ∧ Below w.heap.size w w' := by
  have k0 := blk_new w (.cells #[.int .i64 b, .int .i64 c, .int .i64 n] 44)
  have u0 := hid (up_alloc w (.cells #[.int .i64 b, .int .i64 c, .int .i64 n] 44))
  have LO := hid h
  obtain ⟨h1, h2, h3, h4, h5, h6⟩ := h
  unfold limV at *
  go_enter Tryd.func79, Tryd.ntmps79
  go_wp2_with fail
  generalize w.alloc (.cells #[.int .i64 b, .int .i64 c, .int .i64 n] 44) = w1 at *
  have z0 := blk_cell k0 0 _ rfl
  have z1 := blk_cell k0 1 _ rfl
  clear k0
  go_loopw [9, 5] (fun i d wr => ∃ j : Nat, j ≤ k ∧ i = .int .i64 (j : Int) ∧ d = .int .i64 (b * 2 ^ j) ∧ Hid (b * 2 ^ j < 2 * c) ∧ w1 = wr) (fun i _ _ => ((k : Int) - intOf i).toNat)
  case atStart => exact ⟨0, by omega, rfl, by simp, (show b * 2 ^ 0 < 2 * c by simp; omega), rfl⟩
  case round =>
    obtain ⟨j, hj, rfl, rfl, HD, rfl⟩ := hrel
    have hd1 := pow_one h1 j
    have hd2 := HD.out
    have HS := hid (pow_step b j)
    have HU : Hid (∀ i : Nat, b * 2 ^ j ≤ b * 2 ^ (j + i)) := fun i => pow_up h1 j i
    obtain ⟨d, hd⟩ : ∃ d, d = b * 2 ^ j := ⟨_, rfl⟩
    rw [← hd] at hd1 hd2 HS HU ⊢
    have HE := hid hd
    clear hd HD
    by_cases c1 : (j : Int) < (k : Int)
    · by_cases c2 : d < c
      · have c3 : ¬ c ≤ d := by omega
        go_wp2_with fail
        exact ⟨⟨j + 1, by omega, by go_num, by rw [HS.out] <;> go_num, (show b * 2 ^ (j + 1) < 2 * c by rw [HS.out]; omega), by first | rfl | trivial⟩, by simp [intOf]; omega⟩
      · have RR : Hid (delN b c k = c) := by
          unfold Hid delN
          rw [if_neg]
          have := HU.out (k - j)
          rw [show j + (k - j) = k by omega] at this
          omega
        have c3 : c ≤ d := by omega
        go_wp2_with fail
        · go_ret
          exact ⟨by rw [RR.out] <;> rfl, u0.out⟩
        · have e : d = c := by omega
          go_ret
          exact ⟨by rw [RR.out, ← e] <;> rfl, u0.out⟩
    · have RR : Hid (delN b c k = if d < c then d else c) := by
        unfold Hid delN
        rw [HE.out, show k = j by omega]
      by_cases c2 : d < c
      · rw [if_pos c2] at RR
        go_wp2_with fail
        go_ret
        exact ⟨by rw [RR.out] <;> rfl, u0.out⟩
      · rw [if_neg c2] at RR
        have c3 : c ≤ d := by omega
        go_wp2_with fail
        · go_ret
          exact ⟨by rw [RR.out] <;> rfl, u0.out⟩
        · have e : d = c := by omega
          go_ret
          exact ⟨by rw [RR.out, ← e] <;> rfl, u0.out⟩
end Go.Proofs.YtpjmieiajhhbaaaDoor

/- The program's delays, dues and totals. -/
namespace Go.Proofs.YtpjmieiajhhbaaaDoor
open Go.RowKit
set_option linter.unusedVariables false
set_option linter.unusedSimpArgs false

set_option maxHeartbeats 1000000 in
theorem delayE_any (b c n k : Int) (hk : k ≤ 9223372036854775807) (w : World) : Calls Tryd.prog 65 #[limV b c n, .int .i64 k] w fun e w' => e = .returned (.tuple #[.int .i64 (delayP b c n k).1, .int .i64 (delayP b c n k).2]) ∧ Below w.heap.size w w' := by
  have HC : Hid (∀ w', Calls Tryd.prog 24 #[limV b c n] w' fun e w'' => e = .returned (.int .i64 (chkP b c n)) ∧ Below w'.heap.size w' w'') := fun w' => checkE_any b c n w'
  have k0 := hid (blk_new w (.cells #[.int .i64 b, .int .i64 c, .int .i64 n] 44))
  have u0 := hid (up_alloc w (.cells #[.int .i64 b, .int .i64 c, .int .i64 n] 44))
  by_cases h : LimOk b c n
  · have hc : chkP b c n = 0 := if_pos h
    rw [hc] at HC
    clear hc
    by_cases hk' : 0 ≤ k
    · have R : Hid (delayP b c n k = (delN b c k.toNat, 0)) := if_pos ⟨h, hk'⟩
      have HD : Hid (∀ w', Calls Tryd.prog 79 #[limV b c n, .int .i64 k] w' fun e w'' => e = .returned (.int .i64 (delN b c k.toNat)) ∧ Below w'.heap.size w' w'') := by
        intro w'
        have := delE_any b c n h k.toNat (by omega) w'
        rw [show ((k.toNat : Nat) : Int) = k by omega] at this
        exact this
      generalize delN b c k.toNat = d at *
      unfold limV at *
      have hk2 : ¬ k < 0 := by omega
      go_enter Tryd.func65, Tryd.ntmps65
      go_wp2_with fail
      refine (HC.out _).mono ?_
      rintro e w1 ⟨rfl, hb1⟩
      have k1 := hid (blk_up k0.out hb1)
      have u1 := hid (up_trans u0.out hb1)
      clear k0 u0 hb1 HC
      have z0 := blk_cell k1.out 0 _ rfl
      have z1 := blk_cell k1.out 1 _ rfl
      have z2 := blk_cell k1.out 2 _ rfl
      go_wp2_with fail
      refine (HD.out _).mono ?_
      rintro e w2 ⟨rfl, hb2⟩
      have u2 := hid (up_trans u1.out hb2)
      clear z0 z1 z2
      go_wp2_with fail
      go_ret2
      exact ⟨by rw [R.out] <;> rfl, u2.out⟩
    · have R : Hid (delayP b c n k = (0, 4)) := if_neg fun q => hk' q.2
      have hk2 : k < 0 := by omega
      unfold limV at *
      go_enter Tryd.func65, Tryd.ntmps65
      go_wp2_with fail
      refine (HC.out _).mono ?_
      rintro e w1 ⟨rfl, hb1⟩
      have u1 := hid (up_trans u0.out hb1)
      go_wp2_with fail
      go_ret2
      exact ⟨by rw [R.out] <;> rfl, u1.out⟩
  · have hc : chkP b c n = 4 := if_neg h
    have R : Hid (delayP b c n k = (0, 4)) := if_neg fun q => h q.1
    rw [hc] at HC
    clear hc
    unfold limV at *
    go_enter Tryd.func65, Tryd.ntmps65
    go_wp2_with fail
    refine (HC.out _).mono ?_
    rintro e w1 ⟨rfl, hb1⟩
    have u1 := hid (up_trans u0.out hb1)
    go_wp2_with fail
    go_ret2
    exact ⟨by rw [R.out] <;> rfl, u1.out⟩
theorem dueE_any (b c n now k : Int) (hk : k ≤ 9223372036854775807) (w : World) : Calls Tryd.prog 43 #[limV b c n, .int .i64 now, .int .i64 k] w fun e w' => e = .returned (.tuple #[.int .i64 (dueP b c n now k).1, .int .i64 (dueP b c n now k).2]) ∧ Below w.heap.size w w' := by
  have HD : Hid (∀ w', Calls Tryd.prog 65 #[limV b c n, .int .i64 k] w' fun e w'' => e = .returned (.tuple #[.int .i64 (delayP b c n k).1, .int .i64 (delayP b c n k).2]) ∧ Below w'.heap.size w' w'') := fun w' => delayE_any b c n k hk w'
  have u0 := hid (up_alloc w (.cells #[.int .i64 b, .int .i64 c, .int .i64 n] 44))
  by_cases h : LimOk b c n ∧ 0 ≤ k
  · have E : delayP b c n k = (delN b c k.toNat, 0) := if_pos h
    rw [E] at HD
    have L := delN_le h.1 k.toNat
    have h1 := h.1.1
    have h4 := h.1.2.2.2.1
    have P : Hid (dueP b c n now k = if 0 ≤ now ∧ now + delN b c k.toNat < 32503680000 then (now + delN b c k.toNat, 0) else (0, 4)) := by
      unfold Hid dueP
      by_cases q : 0 ≤ now ∧ now + delN b c k.toNat < 32503680000
      · rw [if_pos ⟨h, q⟩, if_pos q]
      · rw [if_neg fun x => q x.2, if_neg q]
    obtain ⟨d, hd⟩ : ∃ d, d = delN b c k.toNat := ⟨_, rfl⟩
    rw [← hd] at HD L P
    clear hd E h
    unfold limV at *
    go_enter Tryd.func43, Tryd.ntmps43
    go_wp2_with fail
    refine (HD.out _).mono ?_
    rintro e w1 ⟨rfl, hb1⟩
    have u1 := hid (up_trans u0.out hb1)
    by_cases n1 : now < 0
    · have R : Hid (dueP b c n now k = (0, 4)) := P.out.trans (if_neg (by omega))
      go_wp2_with fail
      go_ret2
      exact ⟨by rw [R.out] <;> rfl, u1.out⟩
    · by_cases n2 : 32503680000 ≤ now
      · have R : Hid (dueP b c n now k = (0, 4)) := P.out.trans (if_neg (by omega))
        go_wp2_with fail
        go_ret2
        exact ⟨by rw [R.out] <;> rfl, u1.out⟩
      · by_cases n3 : 32503680000 ≤ now + d
        · have R : Hid (dueP b c n now k = (0, 4)) := P.out.trans (if_neg (by omega))
          go_wp2_with fail
          go_ret2
          exact ⟨by rw [R.out] <;> rfl, u1.out⟩
        · have R : Hid (dueP b c n now k = (now + d, 0)) := P.out.trans (if_pos (by omega))
          go_wp2_with fail
          go_ret2
          exact ⟨by rw [R.out] <;> rfl, u1.out⟩
  · have E : delayP b c n k = (0, 4) := if_neg h
    have R : Hid (dueP b c n now k = (0, 4)) := if_neg fun x => h x.1
    rw [E] at HD
    clear h E
    unfold limV at *
    go_enter Tryd.func43, Tryd.ntmps43
    go_wp2_with fail
    refine (HD.out _).mono ?_
    rintro e w1 ⟨rfl, hb1⟩
    have u1 := hid (up_trans u0.out hb1)
    go_wp2_with fail
    go_ret2
    exact ⟨by rw [R.out] <;> rfl, u1.out⟩
end Go.Proofs.YtpjmieiajhhbaaaDoor
