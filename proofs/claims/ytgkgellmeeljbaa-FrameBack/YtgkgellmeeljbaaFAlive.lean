/- The law's example: the octets of a record of kind 1 with one octet. -/
import Derived.Test.YtgkgellmeeljbaaFLaw
namespace Go.Proofs.Ytgkgellmeeljbaa
open Go.RowKit SumPlain
set_option linter.unusedVariables false

theorem frame_a : frameOf 1 [97] = [1, 1, 97] ++ lastL (ext ones [1, 1, 97]) := by
  have e : octets 1 = [1] := by decide +kernel
  show guardOf (octets 1 ++ [1, 97]) = _
  rw [e]
  rfl

set_option maxHeartbeats 1000000 in
theorem alive_any (w : World) : Calls Try.prog 20 #[] w fun e w' => e = .returned (.bool true) ∧ Below w.heap.size w w' := by
  have kc := fun (w : World) (C : Array Value) (n c : Nat) => Lib.run_convert_bytes_const (P := Try.prog) w 22 5 C n c Try.underlying22 Try.underlying5
  have hO : ∀ m, Octs (w.alloc (.cells #[.int .u8 97] 5 m)) (.slice (some ⟨w.heap.size, 0, none⟩) 1 1) [97] := by
    intro m
    refine ⟨by decide, .inr ⟨by simp, w.heap.size, 0, 1, rfl, by simp, by unfold maxLen; omega, fun j x hj => ?_⟩⟩
    have e := World.cell?_alloc_mark w #[.int .u8 97] 5 m j
    rw [Nat.zero_add]
    refine e.trans ?_
    cases j with
    | zero => simp at hj; subst hj; rfl
    | succ j => simp at hj
  have HP : Hid (∀ m, Calls Try.prog 10 #[.agg #[.int .i64 1, .slice (some ⟨w.heap.size, 0, none⟩) 1 1]] (w.alloc (.cells #[.int .u8 97] 5 m)) fun e w' => ∃ g c, e = .returned (.tuple #[.slice (some ⟨g, 0, none⟩) 7 c, .int .i64 0]) ∧ 7 ≤ c ∧ c ≤ maxLen ∧ Hid ((convert 22 9 (.slice (some ⟨g, 0, none⟩) 3 c)).run Try.prog w' = .ok (.string (strOfNums [1, 1, 97])) w') ∧ Hid (Below w.heap.size w w')) := by
    intro m
    refine (fput_good 1 _ 1 [97] _ (hO m) (by decide) (by decide) (by decide)).mono ?_
    rintro e w' ⟨v', rfl, ho, hb⟩
    rw [frame_a] at ho
    have hn : ([1, 1, 97] ++ lastL (ext ones [1, 1, 97])).length = 7 := by rw [List.length_append, lastL_len]; rfl
    obtain ⟨g, c, rfl, _, _, hc, hm⟩ := own_form ho (by simp)
    rw [hn] at hc ho ⊢
    have hoct : ∀ x ∈ [1, 1, 97] ++ lastL (ext ones [1, 1, 97]), 0 ≤ x ∧ x ≤ 255 := by
      intro x hx
      rcases List.mem_append.1 hx with h | h
      · simp at h; omega
      · exact lastL_octet _ x h
    have h3 := (Octs.own ho hoct).cut hn.symm 3 (by rw [hn]; decide)
    have e3 : ([1, 1, 97] ++ lastL (ext ones [1, 1, 97])).take 3 = [1, 1, 97] := rfl
    rw [e3] at h3
    exact ⟨g, c, rfl, hc, hm, run_convert_octs _ _ _ h3, up_trans (up_alloc _ _) hb⟩
  have hS : (strOfNums [1, 1, 97]).toList = [1, 1, 97] := by rw [str_list]; decide
  clear hO
  go_enter Try.func20, Try.ntmps20
  go_wp2_with fail
  refine (HP.out _).mono ?_
  rintro e w1 ⟨g, c, rfl, hc, hm, hr, hb⟩
  have hr' := hr.out
  have hc3 : 3 ≤ c := by omega
  go_wp2_with fail
  refine (num_any _ _).mono ?_
  rintro e w2 ⟨rfl, rfl⟩
  go_wp2
  go_ret
  exact ⟨rfl, hb.out⟩
end Go.Proofs.Ytgkgellmeeljbaa
