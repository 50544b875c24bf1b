/- What is wanted of the program; the page's example. -/
import Derived.Test.YtpjmieiajhhbaaaDoorJSay
namespace Go.Proofs.YtpjmieiajhhbaaaDoor
open Go.RowKit
set_option linter.unusedVariables false
set_option linter.unusedSimpArgs false

/-- What the program's calls say, in every world that has grown out of w. -/
structure Pj (w : World) : Prop where
  check : ∀ j : Jb, j.ok → ∀ w', Below w.heap.size w w' → Calls Tryd.prog 14 #[jobV j] w' fun e w'' => e = .returned (.int .i64 (chkJ j)) ∧ Below w'.heap.size w' w''
  lease : ∀ j : Jb, j.ok → ∀ wk tk un w', Below w.heap.size w w' → Calls Tryd.prog 17 #[jobV j, .int .i64 wk, .int .i64 tk, .int .i64 un] w' fun e w'' => e = .returned (.tuple #[jobV (leaseP j wk tk un).1, .int .i64 (leaseP j wk tk un).2]) ∧ Below w'.heap.size w' w''
  fail : ∀ j : Jb, j.ok → ∀ b c n now w', Below w.heap.size w w' → Calls Tryd.prog 19 #[jobV j, limV b c n, .int .i64 now] w' fun e w'' => e = .returned (.tuple #[jobV (failP j b c n now).1, .int .i64 (failP j b c n now).2]) ∧ Below w'.heap.size w' w''
  finish : ∀ j : Jb, j.ok → ∀ now w', Below w.heap.size w w' → Calls Tryd.prog 21 #[jobV j, .int .i64 now] w' fun e w'' => e = .returned (.tuple #[jobV (finishP j now).1, .bool (finishP j now).2.1, .int .i64 (finishP j now).2.2]) ∧ Below w'.heap.size w' w''
  bound : ∀ b c n w', Below w.heap.size w w' → Calls Tryd.prog 24 #[limV b c n] w' fun e w'' => e = .returned (.int .i64 (chkP b c n)) ∧ Below w'.heap.size w' w''
theorem num_any (x : Int) (w : World) : Calls Tryd.prog 13 #[.int .i64 x] w fun e w' => e = .returned (.int .i64 x) ∧ w' = w := by
  go_enter Tryd.func13, Tryd.ntmps13
  go_wp2
  go_ret
  exact ⟨rfl, rfl⟩
theorem up_num (x : Int) (w : World) (p : UpW w) : Calls Tryd.prog 13 #[.int .i64 x] p.val fun e w' => e = .returned (.int .i64 x) ∧ Below p.val.heap.size p.val w' :=
  (num_any x p.val).mono fun e w' h => ⟨h.1, by rw [h.2]; exact Below.refl _ _⟩
theorem txt_none : TxtOk [] := ⟨fun x hx => (by cases hx), Nat.zero_le _⟩
set_option maxHeartbeats 1000000 in
theorem alive_any (w : World) (hp : Pj w) (w0 : World) (h0 : Below w.heap.size w w0) : Calls Tryd.prog 16 #[] w0 fun e w' => e = .returned (.bool true) ∧ Below w0.heap.size w0 w' := by
  have H1 : Hid (∀ w', Below w.heap.size w w' → Calls Tryd.prog 19 #[.agg #[.int .i64 1, .string { data := #[] }, .string { data := #[] }, .string { data := #[] }, .int .i64 2, .int .i64 0, .int .i64 0, .int .i64 1, .int .i64 1, .int .i64 20], .agg #[.int .i64 3, .int .i64 9, .int .i64 4], .int .i64 10] w' fun e w'' => e = .returned (.tuple #[.agg #[.int .i64 1, .string { data := #[] }, .string { data := #[] }, .string { data := #[] }, .int .i64 1, .int .i64 13, .int .i64 1, .int .i64 0, .int .i64 0, .int .i64 0], .int .i64 0]) ∧ Below w'.heap.size w' w'') := fun w' hb => by
    have h := hp.fail ⟨1, [], [], [], 2, 0, 0, 1, 1, 20⟩ ⟨txt_none, txt_none, txt_none⟩ 3 9 4 10 w' hb
    rw [alive_fail] at h
    exact h
  clear hp
  have k0 := hid (blk_new w0 (.cells #[.int .i64 1, .string { data := #[] }, .string { data := #[] }, .string { data := #[] }, .int .i64 2, .int .i64 0, .int .i64 0, .int .i64 1, .int .i64 1, .int .i64 20] 27))
  have u0 := hid (up_alloc w0 (.cells #[.int .i64 1, .string { data := #[] }, .string { data := #[] }, .string { data := #[] }, .int .i64 2, .int .i64 0, .int .i64 0, .int .i64 1, .int .i64 1, .int .i64 20] 27))
  have Uu0 := hid (up_trans h0 u0.out)
  clear h0
  go_enter Tryd.func16, Tryd.ntmps16
  have kk := k0.out
  have z0 := blk_cell kk 0 _ rfl
  have z1 := blk_cell kk 1 _ rfl
  have z2 := blk_cell kk 2 _ rfl
  have z3 := blk_cell kk 3 _ rfl
  have z4 := blk_cell kk 4 _ rfl
  have z5 := blk_cell kk 5 _ rfl
  have z6 := blk_cell kk 6 _ rfl
  have z7 := blk_cell kk 7 _ rfl
  have z8 := blk_cell kk 8 _ rfl
  have z9 := blk_cell kk 9 _ rfl
  clear kk
  go_wp2_with fail
  refine (H1.out _ Uu0.out).mono ?_
  rintro e w1 ⟨rfl, hb⟩
  have u1 := hid (up_trans u0.out hb)
  clear hb z0 z1 z2 z3 z4 z5 z6 z7 z8 z9 k0 u0 Uu0 H1
  have u2 := hid (up_al u1.out (.cells #[.int .i64 1, .string { data := #[] }, .string { data := #[] }, .string { data := #[] }, .int .i64 1, .int .i64 13, .int .i64 1, .int .i64 0, .int .i64 0, .int .i64 0] 27))
  have kk := blk_new w1 (.cells #[.int .i64 1, .string { data := #[] }, .string { data := #[] }, .string { data := #[] }, .int .i64 1, .int .i64 13, .int .i64 1, .int .i64 0, .int .i64 0, .int .i64 0] 27)
  have y4 := blk_cell kk 4 _ rfl
  have y5 := blk_cell kk 5 _ rfl
  have y6 := blk_cell kk 6 _ rfl
  have y8 := blk_cell kk 8 _ rfl
  clear kk
  go_wp2_with fail
  refine (num_any _ _).mono ?_
  rintro e w4 ⟨rfl, rfl⟩
  go_wp2_with fail
  go_ret
  exact ⟨rfl, u2.out⟩
end Go.Proofs.YtpjmieiajhhbaaaDoor
