/- The document's cut and number. -/
import Derived.Test.YtbnghhmmanleaaaDoorNMath
namespace Go.Proofs.YtbnghhmmanleaaaDoor
open Go.RowKit
set_option linter.unusedVariables false
set_option linter.unusedSimpArgs false

theorem str_at (l : List Int) (hl : ∀ x ∈ l, 0 ≤ x ∧ x ≤ 255) (k : Nat) (h : k < (strOfNums l).size) : (((strOfNums l)[k]'h).toNat : Int) = l.getD k 0 := by
  have hk : k < l.length := by rw [strOfNums_size] at h; exact h
  have e : (strOfNums l)[k]'h = UInt8.ofNat (l[k]).toNat := by
    show (strOfNums l).data[k]'_ = _
    simp [strOfNums]
  have hb := hl l[k] (List.getElem_mem hk)
  rw [e]
  simp [List.getD, hk]
  omega
set_option maxHeartbeats 400000 in
theorem cutR_any (l : List Int) (c : Int) (hx : ∀ x ∈ l, 0 ≤ x ∧ x ≤ 255) (hm : l.length ≤ 140737488355328) (w : World) :
    Calls Tryd.prog 43 #[.string (strOfNums l), .int .u8 c] w fun e w' => e = .returned (.int .i64 (cutI l c)) ∧ w' = w := by
  have hsz := strOfNums_size l
  go_enter Tryd.func43, Tryd.ntmps43
  go_wp2
  go_loopw [5] (fun i wr => ∃ k : Nat, k ≤ l.length ∧ i = .int .i64 (k : Int) ∧ Hid (cutN l c = k + cutN (l.drop k) c) ∧ w = wr) (fun i _ => l.length - (intOf i).toNat)
  case atStart => exact ⟨0, Nat.zero_le _, rfl, by simp [Hid], rfl⟩
  case round =>
    obtain ⟨k, hk, rfl, H, rfl⟩ := hrel
    by_cases hlt : k < l.length
    · have hlt' : (k : Int) < (l.length : Int) := by omega
      have hj : k < (strOfNums l).size := by omega
      have hy := str_at l hx k hj
      obtain ⟨s1, s2⟩ := cutN_step hlt H.out
      have S1 := hid s1
      have S2 := hid s2
      clear s1 s2
      generalize l.getD k 0 = x at *
      by_cases q : x = c
      · have E : Hid (cutI l c = (k : Int)) := by
          unfold Hid cutI
          rw [S1.out q, if_pos hlt]
        have t : (x == c) = true := by simpa using q
        go_wp2
        go_ret
        exact ⟨by rw [E.out]; rfl, rfl⟩
      · have t : (x == c) = false := by simpa using q
        have H2 : Hid (cutN l c = k + 1 + cutN (l.drop (k + 1)) c) := S2.out q
        go_wp2
        exact ⟨⟨k + 1, by omega, by go_num, H2, by first | rfl | trivial⟩, by simp [intOf]; omega⟩
    · have hlt' : ¬ (k : Int) < (l.length : Int) := by omega
      obtain rfl : k = l.length := by omega
      have E : Hid (cutI l c = -1) := by
        have h := H.out
        rw [List.drop_length] at h
        unfold Hid cutI
        rw [if_neg (by rw [h]; unfold cutN; omega)]
      go_wp2
      go_ret
      exact ⟨by rw [E.out]; rfl, rfl⟩
set_option maxHeartbeats 1000000 in
theorem numberR_any (l : List Int) (hx : ∀ x ∈ l, 0 ≤ x ∧ x ≤ 255) (hm : l.length ≤ 140737488355328) (w : World) :
    Calls Tryd.prog 62 #[.string (strOfNums l)] w fun e w' => e = .returned (.int .i64 (numD l)) ∧ w' = w := by
  have hsz := strOfNums_size l
  by_cases h : l.length = 1 ∨ l.length = 2
  · have hat := fun k h => str_at l hx k h
    match l, h with
    | [a], _ =>
      have ha : 0 ≤ a ∧ a ≤ 255 := hx a (by simp)
      have h0 : 0 < (strOfNums [a]).size := by rw [hsz]; simp
      have e0 : (((strOfNums [a])[0]'h0).toNat : Int) = a := hat 0 h0
      have hsz : (strOfNums [a]).size = 1 := hsz
      have E : Hid (numD [a] = if isD a then a - 48 else -1) := rfl
      clear hat hx hm
      generalize strOfNums [a] = S at *
      by_cases q : isD a = true
      · have hq := isD_iff.1 q
        obtain ⟨q0, q1⟩ := hq
        have n0 : ¬ a < 48 := by omega
        have n1 : ¬ 57 < a := by omega
        have E2 : Hid (numD [a] = a - 48) := E.out.trans (if_pos q)
        go_enter Tryd.func62, Tryd.ntmps62
        go_wp2_with fail
        refine wp_loop_rounds 2 ?_
        rw [rounds_succ]
        go_wp2
        rw [rounds_succ]
        go_wp2
        go_ret
        exact ⟨by rw [E2.out]; rfl, rfl⟩
      · have E2 : Hid (numD [a] = -1) := E.out.trans (if_neg q)
        have hq : a < 48 ∨ 57 < a := by have := mt isD_iff.2 q; omega
        go_enter Tryd.func62, Tryd.ntmps62
        go_wp2_with fail
        refine wp_loop_rounds 2 ?_
        rw [rounds_succ]
        by_cases c : a < 48
        · go_wp2
          go_ret
          exact ⟨by rw [E2.out]; rfl, rfl⟩
        · have c2 : 57 < a := by omega
          go_wp2
          go_ret
          exact ⟨by rw [E2.out]; rfl, rfl⟩
    | [a, b], _ =>
      have ha : 0 ≤ a ∧ a ≤ 255 := hx a (by simp)
      have hb : 0 ≤ b ∧ b ≤ 255 := hx b (by simp)
      have h0 : 0 < (strOfNums [a, b]).size := by rw [hsz]; simp
      have h1 : 1 < (strOfNums [a, b]).size := by rw [hsz]; simp
      have e0 : (((strOfNums [a, b])[0]'h0).toNat : Int) = a := hat 0 h0
      have e1 : (((strOfNums [a, b])[1]'h1).toNat : Int) = b := hat 1 h1
      have hsz : (strOfNums [a, b]).size = 2 := hsz
      have E : Hid (numD [a, b] = if isD a && isD b then 10 * (a - 48) + (b - 48) else -1) := rfl
      clear hat hx hm
      generalize strOfNums [a, b] = S at *
      by_cases q : isD a = true
      · have hq := isD_iff.1 q
        obtain ⟨q0, q1⟩ := hq
        have n0 : ¬ a < 48 := by omega
        have n1 : ¬ 57 < a := by omega
        by_cases r : isD b = true
        · have hr := isD_iff.1 r
          obtain ⟨r0, r1⟩ := hr
          have m0 : ¬ b < 48 := by omega
          have m1 : ¬ 57 < b := by omega
          have E2 : Hid (numD [a, b] = 10 * (a - 48) + (b - 48)) := E.out.trans (if_pos (by rw [q, r]; rfl))
          go_enter Tryd.func62, Tryd.ntmps62
          go_wp2_with fail
          refine wp_loop_rounds 3 ?_
          rw [rounds_succ]
          go_wp2
          rw [rounds_succ]
          go_wp2
          rw [rounds_succ]
          go_wp2
          go_ret
          exact ⟨by rw [E2.out]; rfl, rfl⟩
        · have E2 : Hid (numD [a, b] = -1) := E.out.trans (if_neg (by rw [q, Bool.true_and]; exact r))
          have hq : b < 48 ∨ 57 < b := by have := mt isD_iff.2 r; omega
          go_enter Tryd.func62, Tryd.ntmps62
          go_wp2_with fail
          refine wp_loop_rounds 2 ?_
          rw [rounds_succ]
          go_wp2
          rw [rounds_succ]
          by_cases c : b < 48
          · go_wp2
            go_ret
            exact ⟨by rw [E2.out]; rfl, rfl⟩
          · have c2 : 57 < b := by omega
            go_wp2
            go_ret
            exact ⟨by rw [E2.out]; rfl, rfl⟩
      · have E2 : Hid (numD [a, b] = -1) := E.out.trans (if_neg (by rw [Bool.and_eq_true]; exact fun z => q z.1))
        have hq : a < 48 ∨ 57 < a := by have := mt isD_iff.2 q; omega
        go_enter Tryd.func62, Tryd.ntmps62
        go_wp2_with fail
        refine wp_loop_rounds 2 ?_
        rw [rounds_succ]
        by_cases c : a < 48
        · go_wp2
          go_ret
          exact ⟨by rw [E2.out]; rfl, rfl⟩
        · have c2 : 57 < a := by omega
          go_wp2
          go_ret
          exact ⟨by rw [E2.out]; rfl, rfl⟩
  · have E : Hid (numD l = -1) := by
      match l, h with
      | [], _ => rfl
      | [a], h => exact absurd (Or.inl rfl) h
      | [a, b], h => exact absurd (Or.inr rfl) h
      | _ :: _ :: _ :: _, _ => rfl
    have hl : (l.length : Int) < 1 ∨ 2 < (l.length : Int) := by omega
    go_enter Tryd.func62, Tryd.ntmps62
    by_cases c : (l.length : Int) < 1
    · go_wp2
      go_ret
      exact ⟨by rw [E.out]; rfl, rfl⟩
    · have c2 : 2 < (l.length : Int) := by omega
      go_wp2
      go_ret
      exact ⟨by rw [E.out]; rfl, rfl⟩
end Go.Proofs.YtbnghhmmanleaaaDoor
