/- Two batches alike; the example of the page. -/
import Derived.Test.YtgphkddcfcmaiabWLaw
namespace Go.Proofs.Ytgphkddcfcmaiab
open Go.RowKit SumPlain
set_option linter.unusedVariables false

theorem enc_ax : encOf 1 [⟨⟨#[97]⟩, false, ⟨#[120]⟩⟩] = [1, 1, 1, 1, 97, 1, 120] := by decide +kernel

set_option maxHeartbeats 1000000 in
theorem alive_any (w : World) : Calls Try.prog 4 #[] w fun e w' => e = .returned (.bool true) ∧ Below w.heap.size w w' := by
  have hR : ChgsR (w.alloc (.cells #[.string ⟨#[97]⟩, .bool false, .string ⟨#[120]⟩] 37)) (.slice (some ⟨w.heap.size, 0, none⟩) 1 1) [⟨⟨#[97]⟩, false, ⟨#[120]⟩⟩] :=
    Rws.made (sz := 3) w 37 [[.string ⟨#[97]⟩, .bool false, .string ⟨#[120]⟩]] (by simp) (by simp [maxLen])
  have HP : Hid (Calls Try.prog 12 #[.agg #[.int .i64 1, .slice (some ⟨w.heap.size, 0, none⟩) 1 1]] (w.alloc (.cells #[.string ⟨#[97]⟩, .bool false, .string ⟨#[120]⟩] 37)) fun e w' => ∃ a n c, e = .returned (.tuple #[.slice a n c, .int .i64 0]) ∧ Hid ((convert 22 9 (.slice a n c)).run Try.prog w' = .ok (.string (strOfNums [1, 1, 1, 1, 97, 1, 120])) w') ∧ Hid (Below w.heap.size w w')) := by
    refine (encode_good 1 [⟨⟨#[97]⟩, false, ⟨#[120]⟩⟩] _ 1 _ hR (by decide +kernel)).mono ?_
    rintro e w' ⟨a, n, c, rfl, ho, hb⟩
    have h1 := ho.out
    rw [enc_ax] at h1
    exact ⟨a, n, c, rfl, run_convert_octs _ _ _ (Octs.own h1 (by decide)), up_trans (up_alloc _ _) hb.out⟩
  have hS : (strOfNums [1, 1, 1, 1, 97, 1, 120]).toList = [1, 1, 1, 1, 97, 1, 120] := by rw [str_list]; decide
  clear hR
  go_enter Try.func4, Try.ntmps4
  go_wp2_with fail
  refine HP.out.mono ?_
  rintro e w1 ⟨a, n, c, rfl, hr, hb⟩
  have hr' := hr.out
  go_wp2_with fail
  refine (num_any _ _).mono ?_
  rintro e w2 ⟨rfl, rfl⟩
  go_wp2
  go_ret
  exact ⟨rfl, hb.out⟩
end Go.Proofs.Ytgphkddcfcmaiab
