/- A second's moment: the program's. -/
import Derived.Test.YtbnghhmmanleaaaDoorCDate
namespace Go.Proofs.YtbnghhmmanleaaaDoor
open Go.RowKit
set_option linter.unusedVariables false
set_option linter.unusedSimpArgs false

/-- Seven numbers as a struct or an array. -/
def sevV (a b c d e f g : Int) : Value := .agg #[.int .i64 a, .int .i64 b, .int .i64 c, .int .i64 d, .int .i64 e, .int .i64 f, .int .i64 g]
theorem results_sev {fn : Func} {q : Nat} {t : TypeId} (h : fn.results = #[.cell q t]) (hl : t = 70 ∨ t = 100) (tmps : Array Value) (w : World) {N : Nat} {a b c d e f g : Value} (ht : tmps.getD q undef = .pointer (some ⟨N, 0, none⟩))
    (hc : w.heap[N]? = some (.cells #[a, b, c, d, e, f, g] t)) : (results fn tmps).run Tryd.prog w = .ok (.agg #[a, b, c, d, e, f, g]) w := by
  have c0 := blk_cell hc 0 a rfl
  have c1 := blk_cell hc 1 b rfl
  have c2 := blk_cell hc 2 c rfl
  have c3 := blk_cell hc 3 d rfl
  have c4 := blk_cell hc 4 e rfl
  have c5 := blk_cell hc 5 f rfl
  have c6 := blk_cell hc 6 g rfl
  have ht' : tmps[q]?.getD undef = .pointer (some ⟨N, 0, none⟩) := by simpa using ht
  rcases hl with rfl | rfl
  · simp only [results, h]
    simp [ht', go_sem, c0, c1, c2, c3, c4, c5, c6]
  · simp only [results, h]
    simp [ht', go_sem, c0, c1, c2, c3, c4, c5, c6]
theorem momentOf_any (a b c d e f g : Int) (w : World) : Calls Tryd.prog 51 #[sevV a b c d e f g] w fun x w' => x = .returned (sevV a b c d e f g) ∧ Below w.heap.size w w' := by
  unfold sevV
  go_enter Tryd.func51, Tryd.ntmps51
  go_wp2
  go_returns
  exact ⟨rfl, up_al (up_alloc w _) _⟩
/-- Seven numbers, told as a list. -/
def sevL (l : List Int) : Value := .agg (l.map (Value.int .i64)).toArray
def retM (q : List Int × Int) : Value := .tuple #[sevL q.1, .int .i64 q.2]
set_option maxHeartbeats 1000000 in
theorem split_any (t : Int) (w : World) (he : Env w) : Calls Tryd.prog 50 #[.int .i64 t] w fun e w' => e = .returned (retM (momP t)) ∧ Below w.heap.size w w' := by
  by_cases h : 0 ≤ t ∧ t < 32503680000
  · have e : momP t = ([dateY (t / 86400), dateM (t / 86400), dateD (t / 86400), hourT t, minT t, secT t, (t / 86400 + 4) % 7], 0) := if_pos h
    rw [e]
    obtain ⟨t0, t1⟩ := h
    have a1 : ¬ t < 0 := by omega
    have a2 : ¬ 32503680000 ≤ t := by omega
    obtain ⟨k3, k4, k5, k6⟩ := clock (t := t)
    have q : dateQ (t / 86400) = (dateY (t / 86400), dateM (t / 86400), dateD (t / 86400), 0) := if_pos ⟨by omega, by omega⟩
    have HD : Hid (∀ w', Env w' → Calls Tryd.prog 53 #[.int .i64 (t / 60 / 60 / 24)] w' fun e w'' => e = .returned (.tuple #[.int .i64 (dateY (t / 86400)), .int .i64 (dateM (t / 86400)), .int .i64 (dateD (t / 86400)), .int .i64 0]) ∧ w'' = w') := by
      intro w' hw'
      have := date_any (t / 86400) w' hw'
      rw [q] at this
      rw [k3]
      exact this
    have HW : Hid (∀ w', Calls Tryd.prog 67 #[.int .i64 (t / 60 / 60 / 24)] w' fun e w'' => e = .returned (.int .i64 ((t / 86400 + 4) % 7)) ∧ w'' = w') := by
      intro w'
      rw [k3]
      exact weekday_any _ (by omega) (by omega) w'
    rw [← k4, ← k5, ← k6]
    have s0 : ∀ o1 o2, ((w.alloc o1).alloc o2).cell? ⟨2, 0, none⟩ = some (.int .i64 24) := fun o1 o2 => (he.up (up_al (up_alloc w o1) o2)).siz 0 24 rfl
    have s1 : ∀ o1 o2, ((w.alloc o1).alloc o2).cell? ⟨2, 1, none⟩ = some (.int .i64 60) := fun o1 o2 => (he.up (up_al (up_alloc w o1) o2)).siz 1 60 rfl
    have s2 : ∀ o1 o2, ((w.alloc o1).alloc o2).cell? ⟨2, 2, none⟩ = some (.int .i64 60) := fun o1 o2 => (he.up (up_al (up_alloc w o1) o2)).siz 2 60 rfl
    have HE := hid he
    clear e q k3 k4 k5 k6 he
    generalize dateY (t / 86400) = y at *
    generalize dateM (t / 86400) = m at *
    generalize dateD (t / 86400) = d at *
    generalize (t / 86400 + 4) % 7 = wd at *
    go_enter Tryd.func50, Tryd.ntmps50
    go_wp2_with fail
    refine wp_loop_rounds 4 ?_
    rw [rounds_succ]
    go_wp2
    rw [rounds_succ]
    go_wp2
    rw [rounds_succ]
    go_wp2
    rw [rounds_succ]
    go_wp2_with fail
    refine (HD.out _ (HE.out.up (up_al (up_alloc w _) _))).mono ?_
    rintro e w3 ⟨rfl, rfl⟩
    go_wp2_with fail
    refine (HW.out _).mono ?_
    rintro e w3 ⟨rfl, rfl⟩
    go_wp2
    go_returns
    exact ⟨rfl, up_al (up_alloc w _) _⟩
  · have e : momP t = ([0, 0, 0, 0, 0, 0, 0], 4) := if_neg h
    rw [e]
    clear e he
    go_enter Tryd.func50, Tryd.ntmps50
    by_cases c : t < 0
    · go_wp2
      go_returns
      exact ⟨rfl, up_al (up_alloc w _) _⟩
    · have c2 : 32503680000 ≤ t := by omega
      go_wp2
      go_returns
      exact ⟨rfl, up_al (up_alloc w _) _⟩
end Go.Proofs.YtbnghhmmanleaaaDoor
