/- Two batches alike; the example of the page. -/
import Derived.Test.YtgphkddcfcmaiaaWLaw
namespace Go.Proofs.Ytgphkddcfcmaiaa
open Go.RowKit SumPlain
set_option linter.unusedVariables false

set_option maxHeartbeats 1000000 in
theorem same_self (s : Int) (cs : List Chg) (v u : Value) (w : World) (hv : ChgsR w v cs) (hu : ChgsR w u cs) :
    Calls Try.prog 19 #[.agg #[.int .i64 s, v], .agg #[.int .i64 s, u]] w fun e w' => e = .returned (.bool true) ∧ Below w.heap.size w w' := by
  obtain ⟨a1, c1, rfl, _, _⟩ := hv.len
  obtain ⟨a2, c2, rfl, _, _⟩ := hu.len
  have HS : Hid (∀ o1 o2, Calls Try.prog 39 #[.slice a1 cs.length c1, .slice a2 cs.length c2] ((w.alloc o1).alloc o2) fun e w' => e = .returned (.bool true) ∧ ∃ d, w' = ((w.alloc o1).alloc o2).drewN d) := fun o1 o2 =>
    sameChgs_self cs _ _ _ (hv.up (up_al (up_alloc _ _) _)) (hu.up (up_al (up_alloc _ _) _))
  have U : Hid (∀ o1 o2 d, Below w.heap.size w (((w.alloc o1).alloc o2).drewN d)) := fun o1 o2 d => up_trans (up_al (up_alloc _ _) _) (up_drewN _ _)
  clear hv hu
  go_enter Try.func19, Try.ntmps19
  go_wp2_with fail
  refine (HS.out _ _).mono ?_
  rintro e w1 ⟨rfl, d, rfl⟩
  go_wp2
  go_ret
  exact ⟨rfl, U.out _ _ _⟩

theorem enc_ax : encOf 1 [⟨⟨#[97]⟩, false, ⟨#[120]⟩⟩] = [1, 1, 1, 1, 97, 1, 120] := by decide +kernel

set_option maxHeartbeats 1000000 in
theorem alive_any (w : World) : Calls Try.prog 23 #[] w fun e w' => e = .returned (.bool true) ∧ Below w.heap.size w w' := by
  have hR : ChgsR (w.alloc (.cells #[.string ⟨#[97]⟩, .bool false, .string ⟨#[120]⟩] 67)) (.slice (some ⟨w.heap.size, 0, none⟩) 1 1) [⟨⟨#[97]⟩, false, ⟨#[120]⟩⟩] :=
    Rws.made (sz := 3) w 67 [[.string ⟨#[97]⟩, .bool false, .string ⟨#[120]⟩]] (by simp) (by simp [maxLen])
  have HP : Hid (Calls Try.prog 11 #[.agg #[.int .i64 1, .slice (some ⟨w.heap.size, 0, none⟩) 1 1]] (w.alloc (.cells #[.string ⟨#[97]⟩, .bool false, .string ⟨#[120]⟩] 67)) fun e w' => ∃ a n c, e = .returned (.tuple #[.slice a n c, .int .i64 0]) ∧ Hid ((convert 25 9 (.slice a n c)).run Try.prog w' = .ok (.string (strOfNums [1, 1, 1, 1, 97, 1, 120])) w') ∧ Hid (Below w.heap.size w w')) := by
    refine (encode_good 1 [⟨⟨#[97]⟩, false, ⟨#[120]⟩⟩] _ 1 _ hR (by decide +kernel)).mono ?_
    rintro e w' ⟨a, n, c, rfl, ho, hb⟩
    have h1 := ho.out
    rw [enc_ax] at h1
    exact ⟨a, n, c, rfl, run_convert_octs _ _ _ (Octs.own h1 (by decide)), up_trans (up_alloc _ _) hb.out⟩
  have hS : (strOfNums [1, 1, 1, 1, 97, 1, 120]).toList = [1, 1, 1, 1, 97, 1, 120] := by rw [str_list]; decide
  clear hR
  go_enter Try.func23, Try.ntmps23
  go_wp2_with fail
  refine HP.out.mono ?_
  rintro e w1 ⟨a, n, c, rfl, hr, hb⟩
  have hr' := hr.out
  go_wp2_with fail
  refine (num_any _ _).mono ?_
  rintro e w2 ⟨rfl, rfl⟩
  go_wp2
  go_ret
  exact ⟨rfl, hb.out⟩
end Go.Proofs.Ytgphkddcfcmaiaa
