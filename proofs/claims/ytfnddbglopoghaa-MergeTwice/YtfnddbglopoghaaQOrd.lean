/- The program's order of layer 13. -/
import Derived.Test.YtfnddbglopoghaaQStay
namespace Go.Proofs.Ytfnddbglopoghaa
open Go.RowKit
set_option linter.unusedVariables false
set_option linter.unusedSimpArgs false

/-- Which of two versions comes first, as a number. -/
def ordC (a b : En) : Int := if beforeE a b = true then -1 else if beforeE b a = true then 1 else 0
theorem ordC_lt (a b : En) : decide (ordC a b < 0) = beforeE a b := by
  unfold ordC
  cases h : beforeE a b
  · simp only [Bool.false_eq_true, if_false]
    split <;> decide
  · simp
def ordW (a b : En) (w : World) : World := if beforeE a b = true then (((w.alloc (enObj a)).alloc (enObj b)).alloc (enObj a)).alloc (enObj b) else (((((w.alloc (enObj a)).alloc (enObj b)).alloc (enObj a)).alloc (enObj b)).alloc (enObj b)).alloc (enObj a)
theorem beforeX (a b : En) (x : Bool) (h : beforeE a b = x) (w : World) : Calls Try.prog 37 #[.agg #[.string a.key, .int .i64 a.seq, .int .i64 a.kind, .string a.val], .agg #[.string b.key, .int .i64 b.seq, .int .i64 b.kind, .string b.val]] w fun e w' => e = .returned (.bool x) ∧ w' = (w.alloc (enObj a)).alloc (enObj b) := by
  subst h
  exact before_any a b w
set_option maxHeartbeats 1000000 in
set_option maxRecDepth 100000 in
theorem order_any (a b : En) (w : World) : Calls Try.prog 35 #[enV a, enV b] w fun e w' => e = .returned (.int .i64 (ordC a b)) ∧ w' = ordW a b w := by
  have HQ := hid (fun x h W => beforeX a b x h W)
  have HP := hid (fun x h W => beforeX b a x h W)
  have HC : Hid (ordC a b = if beforeE a b = true then -1 else if beforeE b a = true then 1 else 0) := rfl
  have HW : Hid (∀ w, ordW a b w = if beforeE a b = true then (((w.alloc (enObj a)).alloc (enObj b)).alloc (enObj a)).alloc (enObj b) else (((((w.alloc (enObj a)).alloc (enObj b)).alloc (enObj a)).alloc (enObj b)).alloc (enObj b)).alloc (enObj a)) := fun _ => rfl
  unfold enObj at HQ HP
  unfold enV
  cases h1 : beforeE a b
  · have HQ1 := hid (HQ.out false h1)
    rw [h1] at HC HW
    simp only [Bool.false_eq_true, if_false] at HC HW
    cases h2 : beforeE b a
    · have HP1 := hid (HP.out false h2)
      rw [h2] at HC
      simp only [Bool.false_eq_true, if_false] at HC
      go_enter Try.func35, Try.ntmps35
      go_wp2_with fail
      refine (HQ1.out _).mono ?_
      rintro e w1 ⟨rfl, rfl⟩
      go_wp2_with fail
      refine (HP1.out _).mono ?_
      rintro e w1 ⟨rfl, rfl⟩
      go_wp2_with fail
      go_ret
      exact ⟨ret_int HC.out.symm, (HW.out w).symm⟩
    · have HP1 := hid (HP.out true h2)
      rw [h2] at HC
      simp only [if_true] at HC
      go_enter Try.func35, Try.ntmps35
      go_wp2_with fail
      refine (HQ1.out _).mono ?_
      rintro e w1 ⟨rfl, rfl⟩
      go_wp2_with fail
      refine (HP1.out _).mono ?_
      rintro e w1 ⟨rfl, rfl⟩
      go_wp2_with fail
      go_ret
      exact ⟨ret_int HC.out.symm, (HW.out w).symm⟩
  · have HQ1 := hid (HQ.out true h1)
    rw [h1] at HC HW
    simp only [if_true] at HC HW
    go_enter Try.func35, Try.ntmps35
    go_wp2_with fail
    refine (HQ1.out _).mono ?_
    rintro e w1 ⟨rfl, rfl⟩
    go_wp2_with fail
    go_ret
    exact ⟨ret_int HC.out.symm, (HW.out w).symm⟩
end Go.Proofs.Ytfnddbglopoghaa
