/- The law KeysAbove, walked: for any three texts the Go function returns true and changes nothing that was there. -/
import Derived.Test.YtjnbjooagdgfpaaAboveMath
namespace Go.Proofs.Ytjnbjooagdgfpaa
open Go.RowKit
set_option linter.unusedVariables false

set_option maxHeartbeats 2000000 in
theorem above_walk (s a t : List Int) (hs : ∀ x ∈ s, 0 ≤ x ∧ x ≤ 255) (ha : ∀ x ∈ a, 0 ≤ x ∧ x ≤ 255) (ht : ∀ x ∈ t, 0 ≤ x ∧ x ≤ 255) (ms : s.length ≤ 140737488355328) (ma : a.length ≤ 140737488355328) (mt : t.length ≤ 140737488355328) (w : World) :
    Calls Try.prog 7 #[.string (strOfNums s), .string (strOfNums a), .string (strOfNums t)] w fun e w' => e = .returned (.bool true) ∧ Below w.heap.size w w' := by
  have zs := str_size s
  have za := str_size a
  have zt := str_size t
  rcases above_cases s with ⟨hA, hall⟩ | ⟨p, y, r, hA, hsp, hr, hy⟩
  · have HA : Hid (aboveOf s = ([], false)) := hA
    have HL : Hid (∀ i, i < s.length → s.getD i 0 = 255) := hall
    clear hA hall
    have e0 : strOfNums [] = ⟨#[]⟩ := rfl
    go_enter Try.func7, Try.ntmps7
    go_wp2_with fail
    refine (alive_any _).mono ?_
    rintro e w1 ⟨rfl, hb1⟩
    go_wp2_with fail
    refine (above_any s hs ms _).mono ?_
    rintro e w2 ⟨rfl, hb2⟩
    rw [HA.out]
    have HB : Hid (Below w.heap.size w w2) := up_trans hb1 hb2
    clear hb1 hb2
    go_wp2
    go_loopw [9] (fun i wr => ∃ k : Nat, k ≤ s.length ∧ i = .int .i64 k ∧ wr = w2) (fun i _ => s.length - (intOf i).toNat)
    case atStart => exact ⟨0, Nat.zero_le _, rfl, rfl⟩
    case round =>
      obtain ⟨k, hk, rfl, rfl⟩ := hrel
      by_cases hlt : k < s.length
      · have hks : k < (strOfNums s).size := by omega
        have hy := str_at s hs k hks
        rw [HL.out k hlt] at hy
        go_wp2
        exact ⟨⟨k + 1, by omega, by go_num, trivial⟩, by simp [intOf]; omega⟩
      · go_wp2
        go_ret
        exact ⟨by simp, HB.out⟩
  · have hus : ∀ x ∈ p ++ [y + 1], 0 ≤ x ∧ x ≤ 255 := by
      intro x hx
      rcases List.mem_append.1 hx with h | h
      · exact hs x (by rw [hsp]; simp [h])
      · have h0 := hs y (by rw [hsp]; simp)
        simp at h
        omega
    have hsa : ∀ x ∈ s ++ a, 0 ≤ x ∧ x ≤ 255 := by
      intro x hx
      rcases List.mem_append.1 hx with h | h
      · exact hs x h
      · exact ha x h
    have HA : Hid (aboveOf s = (p ++ [y + 1], true)) := hA
    have ecat : strOfNums s ++ strOfNums a = strOfNums (s ++ a) := str_cat _ _
    have f1 : Op.bytesLess (strOfNums (s ++ a)).toList (strOfNums (p ++ [y + 1])).toList = true := by
      rw [str_less _ _ hsa hus, hsp, List.append_assoc, lessL_pre]
      exact lessL_head _ _ (by omega) _ _
    have f2 : Op.bytesLess (strOfNums s).toList (strOfNums (p ++ [y + 1])).toList = true := by
      rw [str_less _ _ hs hus, hsp, lessL_pre]
      exact lessL_head _ _ (by omega) _ _
    have f3 : (decide (s.length ≤ t.length) && ((strOfNums (t.take s.length)).toList == (strOfNums s).toList)) = (!Op.bytesLess (strOfNums t).toList (strOfNums s).toList && Op.bytesLess (strOfNums t).toList (strOfNums (p ++ [y + 1])).toList) := by
      rw [str_less t s ht hs, str_less t _ ht hus, str_eq _ _ (fun x hx => ht x (List.mem_of_mem_take hx)) hs]
      have := above_between p y r t hr ht
      rw [← hsp] at this
      exact this
    have ec : (strOfNums t).extract 0 s.length = strOfNums (t.take s.length) := by rw [str_cut]; simp
    clear hA hsp hr hy hus hsa
    generalize p ++ [y + 1] = U at *
    by_cases c : s.length ≤ t.length
    · have c' : (s.length : Int) ≤ (t.length : Int) := by omega
      have cd : decide (s.length ≤ t.length) = true := by simp [c]
      rw [cd, Bool.true_and] at f3
      cases d1 : Op.bytesLess (strOfNums t).toList (strOfNums s).toList <;> cases d2 : Op.bytesLess (strOfNums t).toList (strOfNums U).toList <;> rw [d1, d2] at f3 <;> simp only [Bool.not_true, Bool.not_false, Bool.true_and, Bool.false_and, Bool.and_self] at f3
      all_goals
        go_enter Try.func7, Try.ntmps7
        go_wp2_with fail
        refine (alive_any _).mono ?_
        rintro e w1 ⟨rfl, hb1⟩
        go_wp2_with fail
        refine (above_any s hs ms _).mono ?_
        rintro e w2 ⟨rfl, hb2⟩
        rw [HA.out]
        go_wp2
        go_ret
        exact ⟨rfl, up_trans hb1 hb2⟩
    · have c' : ¬ (s.length : Int) ≤ (t.length : Int) := by omega
      have cd : decide (s.length ≤ t.length) = false := by simp [c]
      rw [cd, Bool.false_and] at f3
      cases d1 : Op.bytesLess (strOfNums t).toList (strOfNums s).toList <;> cases d2 : Op.bytesLess (strOfNums t).toList (strOfNums U).toList <;> rw [d1, d2] at f3 <;> simp only [Bool.not_true, Bool.not_false, Bool.true_and, Bool.false_and, Bool.and_self] at f3
      all_goals first
        | (exfalso; revert f3; simp; done)
        | (go_enter Try.func7, Try.ntmps7
           go_wp2_with fail
           refine (alive_any _).mono ?_
           rintro e w1 ⟨rfl, hb1⟩
           go_wp2_with fail
           refine (above_any s hs ms _).mono ?_
           rintro e w2 ⟨rfl, hb2⟩
           rw [HA.out]
           go_wp2
           go_ret
           exact ⟨rfl, up_trans hb1 hb2⟩)
end Go.Proofs.Ytjnbjooagdgfpaa
