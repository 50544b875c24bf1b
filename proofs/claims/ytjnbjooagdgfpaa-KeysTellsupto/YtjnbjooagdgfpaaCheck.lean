/- keys.Check and the document's Check return, for any parts in a slice, what the plain function 'checkOf' says; the law's helpers num and same. -/
import Derived.Test.YtjnbjooagdgfpaaParts
namespace Go.Proofs.Ytjnbjooagdgfpaa
open Go.RowKit
set_option linter.unusedVariables false

theorem num_any (n : Int) (w : World) : Calls Try.prog 16 #[.int .i64 n] w fun e w' => e = .returned (.int .i64 n) ∧ w' = w := by
  go_enter Try.func16, Try.ntmps16
  go_wp2
  go_ret
  exact ⟨rfl, rfl⟩

/-- May a part be: a text has no number, a number no text. -/
def okP (p : Bool × Int × List Int) : Bool := if p.1 then decide (p.2.2 = []) else decide (p.2.1 = 0)

def checkOf (l : List (Bool × Int × List Int)) : Int := if 8 < l.length then 3 else if l.all okP then 0 else 1

theorem plain_num (n : Int) (s : ByteArray) (w : World) : Calls Try.prog 27 #[.agg #[.bool true, .int .i64 n, .string s]] w fun e w' => e = .returned (.agg #[.bool true, .int .i64 n, .string ⟨#[]⟩]) ∧
    w' = (w.alloc (.cells #[.bool true, .int .i64 n, .string s] 49)).alloc (.cells #[.bool true, .int .i64 n, .string ⟨#[]⟩] 49) := by
  go_enter Try.func27, Try.ntmps27
  go_wp2
  go_returns
  exact ⟨rfl, rfl⟩

theorem plain_text (n : Int) (s : ByteArray) (w : World) : Calls Try.prog 27 #[.agg #[.bool false, .int .i64 n, .string s]] w fun e w' => e = .returned (.agg #[.bool false, .int .i64 0, .string s]) ∧
    w' = (w.alloc (.cells #[.bool false, .int .i64 n, .string s] 49)).alloc (.cells #[.bool false, .int .i64 0, .string s] 49) := by
  go_enter Try.func27, Try.ntmps27
  go_wp2
  go_returns
  exact ⟨rfl, rfl⟩

set_option maxHeartbeats 2000000 in
theorem check_any (l : List (Bool × Int × List Int)) (v : Value) (w : World) (hv : Parts w v l) :
    Calls Try.prog 18 #[v] w fun e w' => e = .returned (.int .i64 (checkOf l)) ∧ Below w.heap.size w w' := by
  have HV : Hid (Parts w v l) := hv
  obtain ⟨_, a, cap, rfl, hcap, hcm, h3⟩ := hv
  clear h3
  unfold maxLen at hcm
  by_cases h8 : (8 : Int) < (l.length : Int)
  · have e : checkOf l = 3 := by unfold checkOf; rw [if_pos (by omega)]
    rw [e]
    go_enter Try.func18, Try.ntmps18
    go_wp2
    go_ret
    exact ⟨rfl, Below.refl _ _⟩
  · have HC : Hid (checkOf l = if l.all okP then 0 else 1) := by unfold Hid checkOf; rw [if_neg (by omega)]
    go_enter Try.func18, Try.ntmps18
    go_wp2
    go_loopw [10] (fun i wr => ∃ k : Nat, k ≤ l.length ∧ i = .int .i64 k ∧ Hid ((l.take k).all okP = true) ∧ Hid (Below w.heap.size w wr)) (fun i _ => l.length - (intOf i).toNat)
    case atStart => exact ⟨0, Nat.zero_le _, rfl, rfl, Below.refl _ _⟩
    case round =>
      obtain ⟨k, hk, rfl, HA, HB⟩ := hrel
      by_cases hlt : k < l.length
      · obtain ⟨b, off, cap', e, _, _, c0, c1, c2⟩ := (HV.out.up HB.out).at k hlt
        simp at e
        obtain ⟨rfl, rfl⟩ := e
        have hlt' : (k : Int) < (l.length : Int) := by omega
        have HT : Hid ((l.take (k + 1)).all okP = okP (l.getD k (false, 0, []))) := by
          unfold Hid
          rw [take_snoc l k (false, 0, []) hlt, List.all_append, HA.out]
          simp
        have HM : Hid (l.getD k (false, 0, []) ∈ l) := by unfold Hid; simp [List.getD, hlt]
        generalize l.getD k (false, 0, []) = y at *
        obtain ⟨yb, yn, yt⟩ := y
        simp only at c0 c1 c2
        cases yb
        · by_cases c : yn = 0
          · have HK : Hid ((l.take (k + 1)).all okP = true) := by unfold Hid; rw [HT.out, c]; rfl
            clear HT HM
            subst c
            go_wp2_with fail
            go_region_with (first | (go_at_call 27; refine (plain_text _ _ _).mono ?_; rintro e w2 ⟨rfl, rfl⟩))
            all_goals
              have HB3 : Hid (Below w.heap.size w _) := up_dr (up_al (up_al (up_al HB.out (.cells #[.bool false, .int .i64 0, .string (strOfNums yt)] 49)) (.cells #[.bool false, .int .i64 0, .string (strOfNums yt)] 49)) (.cells #[.bool false, .int .i64 0, .string (strOfNums yt)] 49))
              go_wp2
              exact ⟨⟨k + 1, by omega, by go_num, HK, HB3⟩, by simp [intOf]; omega⟩
          · have HK : Hid (checkOf l = 1) := by
              unfold Hid
              rw [HC.out, if_neg]
              intro ha
              have := List.all_eq_true.1 ha _ HM.out
              simp [okP, c] at this
            clear HT HM
            have cb : (yn == 0) = false := by simp [c]
            go_wp2_with fail
            go_region_with (first | (go_at_call 27; refine (plain_text _ _ _).mono ?_; rintro e w2 ⟨rfl, rfl⟩))
            all_goals
              go_wp2
              go_ret
              exact ⟨by rw [HK.out]; rfl, up_dr (up_al (up_al (up_al HB.out _) _) _)⟩
        · by_cases c : yt = []
          · have HK : Hid ((l.take (k + 1)).all okP = true) := by unfold Hid; rw [HT.out, c]; rfl
            clear HT HM
            subst c
            have cs : strOfNums [] = ⟨#[]⟩ := rfl
            rw [cs] at c2
            go_wp2_with fail
            go_region_with (first | (go_at_call 27; refine (plain_num _ _ _).mono ?_; rintro e w2 ⟨rfl, rfl⟩))
            all_goals
              have HB3 : Hid (Below w.heap.size w _) := up_dr (up_al (up_al (up_al HB.out (.cells #[.bool true, .int .i64 yn, .string ⟨#[]⟩] 49)) (.cells #[.bool true, .int .i64 yn, .string ⟨#[]⟩] 49)) (.cells #[.bool true, .int .i64 yn, .string ⟨#[]⟩] 49))
              go_wp2
              exact ⟨⟨k + 1, by omega, by go_num, HK, HB3⟩, by simp [intOf]; omega⟩
          · have HK : Hid (checkOf l = 1) := by
              unfold Hid
              rw [HC.out, if_neg]
              intro ha
              have := List.all_eq_true.1 ha _ HM.out
              simp [okP, c] at this
            have ht : ∀ x ∈ yt, 0 ≤ x ∧ x ≤ 255 := (HV.out.1 _ HM.out).2.1
            clear HT HM
            have cb : ((strOfNums yt).toList == (⟨#[]⟩ : ByteArray).toList) = false := by
              have e := str_eq yt [] ht (by simp)
              have cs : strOfNums [] = ⟨#[]⟩ := rfl
              rw [cs, decide_eq_false c] at e
              exact e
            clear ht
            generalize strOfNums yt = s at *
            have cb2 : ¬ s.toList = (⟨#[]⟩ : ByteArray).toList := by simpa using cb
            have cl : (strOfNums []).toList = [] := by rw [str_list]; rfl
            have cb3 : ¬ s.toList = [] := by rw [← cl]; exact cb2
            have cb4 : ¬ ([] : List UInt8) = s.toList := fun e => cb3 e.symm
            clear cl
            go_wp2_with fail
            go_region_with (first | (go_at_call 27; refine (plain_num _ _ _).mono ?_; rintro e w2 ⟨rfl, rfl⟩))
            all_goals
              go_wp2
              go_ret
              exact ⟨by rw [HK.out]; rfl, up_dr (up_al (up_al (up_al HB.out _) _) _)⟩
      · obtain rfl : k = l.length := by omega
        rw [List.take_length] at HA
        have HK : Hid (checkOf l = 0) := by unfold Hid; rw [HC.out, if_pos HA.out]
        go_wp2
        go_ret
        exact ⟨by rw [HK.out]; rfl, HB.out⟩
end Go.Proofs.Ytjnbjooagdgfpaa
