/- The page's examples; texts copied and compared; filters in memory of the law's own. -/
import Derived.Test.YtbhlphhgibikeaaBMath
import Derived.Test.YtbhlphhgibikeaaLUp
namespace Go.Proofs.Ytbhlphhgibikeaa
open Go.RowKit
set_option linter.unusedVariables false
set_option linter.unusedSimpArgs false

theorem Try.info9 : (Try.prog.info? 9).map (fun i => (i.zero, i.size, i.bytes)) = some (some (.string ⟨#[]⟩), 1, 16) := by kernel_rfl

theorem oct_a : OctL [97] := by intro x hx; simp at hx; omega
theorem oct_nil : OctL [] := by intro x hx; cases hx
theorem str_a : strOfNums [97] = ⟨#[97]⟩ := by decide
theorem str_nil : strOfNums [] = ⟨#[]⟩ := by decide

set_option maxHeartbeats 1000000 in
theorem alive_any (w : World) : Calls Try.prog 20 #[] w fun e w' => e = .returned (.bool true) ∧ Below w.heap.size w w' := by
  have HT : TextsW (w.alloc (.cells #[.string ⟨#[97]⟩] 9)) (.slice (some ⟨w.heap.size, 0, none⟩) 1 1) [[97]] := by
    have h := Rws.made (sz := 1) w 9 ([[97]].map srow) (by simp [srow]) (by unfold maxLen; simp)
    unfold TextsW
    simpa [srow, str_a] using h
  have HM : Hid (Calls Try.prog 11 #[.slice (some ⟨w.heap.size, 0, none⟩) 1 1, .int .i64 10] (w.alloc (.cells #[.string ⟨#[97]⟩] 9)) fun e w' => ∃ a n c, e = .returned (.tuple #[.agg #[.int .i64 (makeR [[97]] 10).1, .slice a n c], .int .i64 0]) ∧ Hid (n = (makeR [[97]] 10).2.length) ∧ Hid (OwnB w' (w.heap.size + 1) (.slice a n c) (makeR [[97]] 10).2) ∧ Hid (Below w.heap.size w w')) := by
    refine (make_any [[97]] (fun s hs => by simp at hs; subst hs; exact ⟨oct_a, by simp⟩) 10 _ _ HT).mono ?_
    rintro e w' ⟨a, n, c, rfl, hn, ho, hb⟩
    refine ⟨a, n, c, rfl, hn, ?_, up_trans (up_alloc w _) hb⟩
    rw [World.size_alloc] at ho
    exact ho
  obtain ⟨m1, m2⟩ := make_may (keys := [[97]]) (each := 10) (by decide)
  have hh := m2 [97] (by simp)
  have HOC := makeR_oct [[97]] 10
  have HH0 : Hid (∀ w : World, Calls Try.prog 15 #[.string ⟨#[]⟩] w fun e w' => e = .returned (.int .u64 14695981039346656037) ∧ w' = w) := fun w => by
    have h := hash_any [] oct_nil (by simp) w
    rw [str_nil, hash_nil] at h
    exact h
  have HH1 : Hid (∀ w : World, Calls Try.prog 15 #[.string ⟨#[97]⟩] w fun e w' => e = .returned (.int .u64 12638187200555641996) ∧ w' = w) := fun w => by
    have h := hash_any [97] oct_a (by simp) w
    rw [str_a, hash_a] at h
    exact h
  generalize (makeR [[97]] 10).1 = K at *
  generalize (makeR [[97]] 10).2 = l at *
  have HHAS : Hid (∀ (a : Option Addr) (n c : Nat) (W : World), n = l.length → Octs W (.slice a n c) l → Calls Try.prog 13 #[.agg #[.int .i64 K, .slice a n c], .string ⟨#[97]⟩] W fun e w' => e = .returned (.tuple #[.bool true, .int .i64 0]) ∧ Hid (Below W.heap.size W w')) := by
    rintro a n c W rfl hv
    have h := has_any [97] oct_a (by simp) K l a c W hv
    have hc : chkE K l.length = 0 := by unfold chkE; rw [if_pos m1]
    rw [str_a, m1, hh, hc] at h
    exact h
  have HOO : Hid (OctL l) := HOC
  clear HT m1 m2 hh HOC
  have HNUM : Hid (∀ w : World, Calls Try.prog 18 #[.int .i64 0] w fun e w' => e = .returned (.int .i64 0) ∧ w' = w) := fun w => num_any 0 w
  go_enter Try.func20, Try.ntmps20
  go_wp2_with fail
  refine HM.out.mono ?_
  rintro e w1 ⟨a, n, c, rfl, hn, ho, hb⟩
  have HO2 : Hid (Octs (w1.alloc (.cells #[.int .i64 K, .slice a n c] 27)) (.slice a n c) l) := (Octs.own ho.out HOO.out).up (up_alloc _ _)
  have HB2 : Hid (Below w.heap.size w (w1.alloc (.cells #[.int .i64 K, .slice a n c] 27))) := up_al hb.out _
  go_wp2_with fail
  refine (HHAS.out a n c _ hn.out HO2.out).mono ?_
  rintro e w2 ⟨rfl, hb2⟩
  have HB3 : Hid (Below w.heap.size w w2) := up_trans HB2.out hb2.out
  clear HO2 HB2 hb2 hb ho HM HHAS
  go_wp2_with fail
  refine (HNUM.out _).mono ?_
  rintro e w3 ⟨rfl, rfl⟩
  go_wp2_with fail
  refine (HNUM.out _).mono ?_
  rintro e w3 ⟨rfl, rfl⟩
  go_wp2_with fail
  refine (HH0.out _).mono ?_
  rintro e w3 ⟨rfl, rfl⟩
  go_wp2_with fail
  refine (HH1.out _).mono ?_
  rintro e w3 ⟨rfl, rfl⟩
  go_wp2
  go_ret
  exact ⟨rfl, HB3.out⟩
end Go.Proofs.Ytbhlphhgibikeaa
