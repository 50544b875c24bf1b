/- The program's common of layer 9. -/
import Derived.Test.YtibjjhceiohmeaaNG
namespace Go.Proofs.Ytibjjhceiohmeaa
open Go.RowKit SumPlain
set_option linter.unusedVariables false
set_option linter.unusedSimpArgs false

set_option maxHeartbeats 1000000 in
theorem commonP_l (l r : List Int) (hl : ∀ x ∈ l, 0 ≤ x ∧ x ≤ 255) (hr : ∀ x ∈ r, 0 ≤ x ∧ x ≤ 255) (h1 : l.length ≤ 140737488355328) (h2 : r.length ≤ 140737488355328) (w : World) :
    Calls Try.prog 41 #[.string (strOfNums l), .string (strOfNums r)] w fun e w' => e = .returned (.int .i64 (comL l r)) ∧ ∃ d, w' = w.drewN d := by
  have s1 := str_size l
  have s2 := str_size r
  go_enter Try.func41, Try.ntmps41
  go_wp2_with fail
  go_loopw [5] (fun i wr => ∃ k d : Nat, k ≤ l.length ∧ k ≤ r.length ∧ i = .int .i64 k ∧ Hid (comL l r = k + comL (l.drop k) (r.drop k)) ∧ wr = w.drewN d) (fun i _ => l.length - (intOf i).toNat)
  case atStart => exact ⟨0, 0, Nat.zero_le _, Nat.zero_le _, rfl, by simp [Hid], rfl⟩
  case round =>
    obtain ⟨k, d, k1, k2, rfl, HK, hwr⟩ := hrel
    have HW : Hid (wr = w.drewN d) := hwr
    clear hwr
    by_cases c1 : k < l.length
    · have c1' : (k : Int) < (l.length : Int) := by omega
      by_cases c2 : k < r.length
      · have c2' : (k : Int) < (r.length : Int) := by omega
        have j1 : k < (strOfNums l).size := by omega
        have j2 : k < (strOfNums r).size := by omega
        have y1 := str_at l hl k j1
        have y2 := str_at r hr k j2
        have b1 : 0 ≤ l.getD k 0 ∧ l.getD k 0 ≤ 255 := hl _ (by simp [List.getD, c1])
        have b2 : 0 ≤ r.getD k 0 ∧ r.getD k 0 ≤ 255 := hr _ (by simp [List.getD, c2])
        have HD : Hid (comL (l.drop k) (r.drop k) = if l.getD k 0 = r.getD k 0 then comL (l.drop (k + 1)) (r.drop (k + 1)) + 1 else 0) := by
          unfold Hid
          rw [drop_at l k c1, drop_at r k c2]
          rw [comL]
        generalize l.getD k 0 = x at *
        generalize r.getD k 0 = y at *
        by_cases hxy : x = y
        · subst hxy
          go_wp2_with fail
          go_quiet (fail)
          go_wp2_with fail
          refine ⟨⟨k + 1, d + nq, by omega, by omega, by go_num, ?_, ?_⟩, by simp [intOf]; omega⟩
          · unfold Hid
            rw [HK.out, HD.out, if_pos trivial]
            omega
          · rw [HW.out, drewN_more]
        · have hxy' : (x == y) = false := by simp [hxy]
          go_wp2_with fail
          go_quiet (fail)
          go_wp2_with fail
          go_ret
          refine ⟨?_, d + nq, by rw [HW.out, drewN_more]⟩
          rw [HK.out, HD.out, if_neg hxy]
          rfl
      · have c2' : ¬ (k : Int) < (r.length : Int) := by omega
        go_wp2_with fail
        go_quiet (fail)
        go_wp2_with fail
        go_ret
        refine ⟨?_, d + nq, by rw [HW.out, drewN_more]⟩
        rw [HK.out, List.drop_eq_nil_of_le (show r.length ≤ k by omega), comL_nil_right]
        rfl
    · have c1' : ¬ (k : Int) < (l.length : Int) := by omega
      go_wp2_with fail
      go_quiet (fail)
      go_wp2_with fail
      go_ret
      refine ⟨?_, d + nq, by rw [HW.out, drewN_more]⟩
      rw [HK.out, List.drop_eq_nil_of_le (show l.length ≤ k by omega), comL_nil_left]
      rfl
theorem commonP_any (a b : ByteArray) (h1 : a.size ≤ 140737488355328) (h2 : b.size ≤ 140737488355328) (w : World) :
    Calls Try.prog 41 #[.string a, .string b] w fun e w' => e = .returned (.int .i64 (comL (nums a) (nums b))) ∧ ∃ d, w' = w.drewN d := by
  have h := commonP_l (nums a) (nums b) (nums_octet a) (nums_octet b) (by rw [nums_length]; exact h1) (by rw [nums_length]; exact h2) w
  rw [str_nums, str_nums] at h
  exact h

theorem comL_symm : ∀ (l r : List Int), comL l r = comL r l
  | [], [] => rfl
  | [], y :: r => by unfold comL; rfl
  | x :: l, [] => by unfold comL; rfl
  | x :: l, y :: r => by
    unfold comL
    rw [comL_symm l r]
    by_cases h : x = y
    · rw [if_pos h, if_pos h.symm]
    · rw [if_neg h, if_neg (fun q => h q.symm)]
end Go.Proofs.Ytibjjhceiohmeaa
