/- The document's digits: two or four of a number. -/
import Derived.Test.YtgandogkjcljkaaDoorCJoin
namespace Go.Proofs.YtgandogkjcljkaaDoor
open Go.RowKit
set_option linter.unusedVariables false
set_option linter.unusedSimpArgs false

theorem one_oct (x : Int) (h : 0 ≤ x ∧ x ≤ 255) (w : World) (B : Nat) (hB : B = w.heap.size) : (convert 59 9 (.slice (some ⟨B, 0, none⟩) 1 1)).run Tryd.prog (w.alloc (.cells #[.int .u8 x] 5)) = .ok (.string (strOfNums [x])) (w.alloc (.cells #[.int .u8 x] 5)) := by
  subst hB
  exact run_convert_octs [x] _ _ (Octs.made w [x] (by intro y hy; cases List.mem_singleton.1 hy; exact h) (by unfold maxLen; simp))
theorem str_empty : ({ data := #[] } : ByteArray) = strOfNums [] := rfl
theorem size1 (w : World) (o : Obj) : (w.alloc o).heap.size = w.heap.size + 1 := by simp
theorem digits2_any (n : Int) (h0 : 0 ≤ n) (h1 : n < 100) (w : World) : Calls Tryd.prog 31 #[.int .i64 n, .int .i64 2] w fun e w' => e = .returned (.string (strOfNums (dig2 n))) ∧ Below w.heap.size w w' := by
  have c1 := one_oct (48 + n % 10) (by omega) w w.heap.size rfl
  have c2 := fun o => one_oct (48 + n / 10 % 10) (by omega) (w.alloc o) (w.heap.size + 1) (by simp)
  have e : Hid (strOfNums (dig2 n) = strOfNums [48 + n / 10 % 10] ++ (strOfNums [48 + n % 10] ++ { data := #[] })) := by
    unfold Hid dig2
    rw [show n / 10 % 10 = n / 10 by omega, str_empty, str_cat, str_cat]
    rfl
  go_enter Tryd.func31, Tryd.ntmps31
  go_wp2_with fail
  refine wp_loop_rounds 3 ?_
  rw [rounds_succ]
  go_wp2
  rw [rounds_succ]
  go_wp2
  rw [rounds_succ]
  go_wp2
  go_returns
  exact ⟨by rw [e.out]; rfl, up_al (up_alloc w _) _⟩
theorem digits4_any (n : Int) (h0 : 0 ≤ n) (h1 : n < 10000) (w : World) : Calls Tryd.prog 31 #[.int .i64 n, .int .i64 4] w fun e w' => e = .returned (.string (strOfNums (dig4 n))) ∧ Below w.heap.size w w' := by
  have c1 := one_oct (48 + n % 10) (by omega) w w.heap.size rfl
  have c2 := fun o => one_oct (48 + n / 10 % 10) (by omega) (w.alloc o) (w.heap.size + 1) (by simp)
  have c3 := fun o p => one_oct (48 + n / 10 / 10 % 10) (by omega) ((w.alloc o).alloc p) (w.heap.size + 2) (by simp)
  have c4 := fun o p q => one_oct (48 + n / 10 / 10 / 10 % 10) (by omega) (((w.alloc o).alloc p).alloc q) (w.heap.size + 3) (by simp)
  have e : Hid (strOfNums (dig4 n) = strOfNums [48 + n / 10 / 10 / 10 % 10] ++ (strOfNums [48 + n / 10 / 10 % 10] ++ (strOfNums [48 + n / 10 % 10] ++ (strOfNums [48 + n % 10] ++ { data := #[] })))) := by
    unfold Hid dig4
    rw [show n / 10 / 10 / 10 % 10 = n / 1000 by omega, show n / 10 / 10 % 10 = n / 100 % 10 by omega, str_empty, str_cat, str_cat, str_cat, str_cat]
    rfl
  go_enter Tryd.func31, Tryd.ntmps31
  go_wp2_with fail
  refine wp_loop_rounds 5 ?_
  rw [rounds_succ]
  go_wp2
  rw [rounds_succ]
  go_wp2
  rw [rounds_succ]
  go_wp2
  rw [rounds_succ]
  go_wp2
  rw [rounds_succ]
  go_wp2
  go_returns
  exact ⟨by rw [e.out]; rfl, up_al (up_al (up_al (up_alloc w _) _) _) _⟩
end Go.Proofs.YtgandogkjcljkaaDoor
