/- The document's Check, one and Compare, and the law's helper same: for any slices of parts they return what the plain functions say. -/
import Derived.Test.YtjnbjooagdgfpaaCmp
namespace Go.Proofs.Ytjnbjooagdgfpaa
open Go.RowKit
set_option linter.unusedVariables false

theorem text_empty (t : List Int) (ht : ∀ x ∈ t, 0 ≤ x ∧ x ≤ 255) : ((strOfNums t).toList == (⟨#[]⟩ : ByteArray).toList) = decide (t = []) := by
  have e := str_eq t [] ht (by simp)
  have cs : strOfNums [] = ⟨#[]⟩ := rfl
  rw [cs] at e
  exact e

set_option maxHeartbeats 1000000 in
theorem refCheck_any (l : List (Bool × Int × List Int)) (v : Value) (w : World) (hv : Parts w v l) :
    Calls Try.prog 19 #[v] w fun e w' => e = .returned (.int .i64 (checkOf l)) ∧ w' = w := by
  have HV : Hid (Parts w v l) := hv
  obtain ⟨_, a, cap, rfl, hcap, hcm, h3⟩ := hv
  clear h3
  unfold maxLen at hcm
  by_cases h8 : (8 : Int) < (l.length : Int)
  · have e : checkOf l = 3 := by unfold checkOf; rw [if_pos (by omega)]
    rw [e]
    go_enter Try.func19, Try.ntmps19
    go_wp2
    go_ret
    exact ⟨rfl, rfl⟩
  · have HC : Hid (checkOf l = if l.all okP then 0 else 1) := by unfold Hid checkOf; rw [if_neg (by omega)]
    go_enter Try.func19, Try.ntmps19
    go_wp2
    go_loopw [3] (fun i wr => ∃ k : Nat, k ≤ l.length ∧ i = .int .i64 k ∧ Hid ((l.take k).all okP = true) ∧ wr = w) (fun i _ => l.length - (intOf i).toNat)
    case atStart => exact ⟨0, Nat.zero_le _, rfl, rfl, rfl⟩
    case round =>
      obtain ⟨k, hk, rfl, HA, rfl⟩ := hrel
      by_cases hlt : k < l.length
      · obtain ⟨b, off, cap', e, _, _, c0, c1, c2⟩ := HV.out.at k hlt
        simp at e
        obtain ⟨rfl, rfl⟩ := e
        have hlt' : (k : Int) < (l.length : Int) := by omega
        have HT : Hid ((l.take (k + 1)).all okP = okP (l.getD k (false, 0, []))) := by
          unfold Hid
          rw [take_snoc l k (false, 0, []) hlt, List.all_append, HA.out]
          simp
        have HM : Hid (l.getD k (false, 0, []) ∈ l) := by unfold Hid; simp [List.getD, hlt]
        generalize l.getD k (false, 0, []) = y at *
        have hBad : Hid (okP y = false → checkOf l = 1) := by
          unfold Hid
          intro h
          rw [HC.out, if_neg]
          intro ha
          have := List.all_eq_true.1 ha _ HM.out
          rw [h] at this
          cases this
        obtain ⟨yb, yn, yt⟩ := y
        have ht : ∀ x ∈ yt, 0 ≤ x ∧ x ≤ 255 := (HV.out.1 _ HM.out).2.1
        have te := text_empty yt ht
        clear ht HM
        simp only at c0 c1 c2
        cases yb
        · by_cases c : yn = 0
          · have HK : Hid ((l.take (k + 1)).all okP = true) := by unfold Hid; rw [HT.out, c]; rfl
            have cb : (yn == 0) = true := by simp [c]
            clear HT hBad te
            go_wp2
            exact ⟨⟨k + 1, by omega, by go_num, HK, trivial⟩, by simp [intOf]; omega⟩
          · have HK : Hid (checkOf l = 1) := hBad.out (by simp [okP, c])
            have cb : (yn == 0) = false := by simp [c]
            clear HT hBad te
            go_wp2
            go_ret
            exact ⟨by rw [HK.out]; rfl, rfl⟩
        · by_cases c : yt = []
          · have HK : Hid ((l.take (k + 1)).all okP = true) := by unfold Hid; rw [HT.out, c]; rfl
            rw [decide_eq_true c] at te
            have cl : (strOfNums yt).toList = [] := by rw [c, str_list]; rfl
            have te2 : ((strOfNums yt).toList == []) = true := by rw [cl]; rfl
            clear HT hBad c
            generalize strOfNums yt = s at *
            go_wp2
            exact ⟨⟨k + 1, by omega, by go_num, HK, trivial⟩, by simp [intOf]; omega⟩
          · have HK : Hid (checkOf l = 1) := hBad.out (by simp [okP, c])
            rw [decide_eq_false c] at te
            have cl : ¬ (strOfNums yt).toList = [] := by rw [str_list]; simpa using c
            have te2 : ((strOfNums yt).toList == []) = false := by simpa using cl
            clear HT hBad c
            generalize strOfNums yt = s at *
            go_wp2
            go_ret
            exact ⟨by rw [HK.out]; rfl, rfl⟩
      · obtain rfl : k = l.length := by omega
        rw [List.take_length] at HA
        have HK : Hid (checkOf l = 0) := by unfold Hid; rw [HC.out, if_pos HA.out]
        go_wp2
        go_ret
        exact ⟨by rw [HK.out]; rfl, rfl⟩
end Go.Proofs.Ytjnbjooagdgfpaa
