/- Split and Join: the program's and the document's. -/
import Derived.Test.YtbnghhmmanleaaaDoorCSplit
import Derived.Deep.QuietTactic
namespace Go.Proofs.YtbnghhmmanleaaaDoor
open Go.RowKit
set_option linter.unusedVariables false
set_option linter.unusedSimpArgs false

theorem results_sev2 {fn : Func} {q r : Nat} {t : TypeId} (h : fn.results = #[.cell q t, .tmp r]) (hl : t = 70 ∨ t = 100) (tmps : Array Value) (w : World) {N : Nat} {a b c d e f g : Value} (ht : tmps.getD q undef = .pointer (some ⟨N, 0, none⟩))
    (hc : w.heap[N]? = some (.cells #[a, b, c, d, e, f, g] t)) : (results fn tmps).run Tryd.prog w = .ok (.tuple #[.agg #[a, b, c, d, e, f, g], tmps.getD r undef]) w := by
  have c0 := blk_cell hc 0 a rfl
  have c1 := blk_cell hc 1 b rfl
  have c2 := blk_cell hc 2 c rfl
  have c3 := blk_cell hc 3 d rfl
  have c4 := blk_cell hc 4 e rfl
  have c5 := blk_cell hc 5 f rfl
  have c6 := blk_cell hc 6 g rfl
  have ht' : tmps[q]?.getD undef = .pointer (some ⟨N, 0, none⟩) := by simpa using ht
  rcases hl with rfl | rfl
  · simp only [results, h]
    simp [ht', go_sem, c0, c1, c2, c3, c4, c5, c6]
  · simp only [results, h]
    simp [ht', go_sem, c0, c1, c2, c3, c4, c5, c6]
theorem set7_blk {w : World} {N : Nat} {t : TypeId} {x0 x1 x2 x3 x4 x5 x6 : Value} (h : w.heap[N]? = some (.cells #[x0, x1, x2, x3, x4, x5, x6] t)) (a b c d e f g : Value) : (((((((w.setCell ⟨N, 0, none⟩ a).setCell ⟨N, 1, none⟩ b).setCell ⟨N, 2, none⟩ c).setCell ⟨N, 3, none⟩ d).setCell ⟨N, 4, none⟩ e).setCell ⟨N, 5, none⟩ f).setCell ⟨N, 6, none⟩ g).heap[N]? = some (.cells #[a, b, c, d, e, f, g] t) := by
  have := blk_set (blk_set (blk_set (blk_set (blk_set (blk_set (blk_set h 0 a) 1 b) 2 c) 3 d) 4 e) 5 f) 6 g
  simpa only [List.setIfInBounds_toArray, List.set_cons_zero, List.set_cons_succ] using this
theorem set7_grown (w : World) (N : Nat) (a b c d e f g : Value) : w.grownBy (((((((w.setCell ⟨N, 0, none⟩ a).setCell ⟨N, 1, none⟩ b).setCell ⟨N, 2, none⟩ c).setCell ⟨N, 3, none⟩ d).setCell ⟨N, 4, none⟩ e).setCell ⟨N, 5, none⟩ f).setCell ⟨N, 6, none⟩ g) (some N) :=
  grown_trans (grown_trans (grown_trans (grown_trans (grown_trans (grown_trans (grown_set w ⟨N, 0, none⟩ a) (grown_set _ ⟨N, 1, none⟩ b)) (grown_set _ ⟨N, 2, none⟩ c)) (grown_set _ ⟨N, 3, none⟩ d)) (grown_set _ ⟨N, 4, none⟩ e)) (grown_set _ ⟨N, 5, none⟩ f)) (grown_set _ ⟨N, 6, none⟩ g)
theorem sev_of (q : List Int × Int) (h : q.1.length = 7) : ∃ a b c d e f g x, q = ([a, b, c, d, e, f, g], x) := by
  obtain ⟨l, x⟩ := q
  match l, h with
  | [a, b, c, d, e, f, g], _ => exact ⟨a, b, c, d, e, f, g, x, rfl⟩
theorem momP_len (t : Int) : (momP t).1.length = 7 := by unfold momP; split <;> rfl
set_option maxHeartbeats 400000 in
theorem Split_any (t : Int) (w : World) (he : Env w) : Calls Tryd.prog 31 #[.int .i64 t] w fun e w' => e = .returned (retM (momP t)) ∧ Below w.heap.size w w' := by
  have H1 : Hid (∀ w', Below w.heap.size w w' → Calls Tryd.prog 50 #[.int .i64 t] w' fun e w'' => e = .returned (retM (momP t)) ∧ Below w'.heap.size w' w'') := fun w' hb => split_any t w' (he.up hb)
  obtain ⟨a, b, c, d, e, f, g, x, q⟩ := sev_of (momP t) (momP_len t)
  rw [q] at H1 ⊢
  clear q he
  have R : retM ([a, b, c, d, e, f, g], x) = .tuple #[sevV a b c d e f g, .int .i64 x] := rfl
  rw [R] at H1 ⊢
  clear R
  have HM : Hid (∀ w', Calls Tryd.prog 51 #[sevV a b c d e f g] w' fun x w'' => x = .returned (sevV a b c d e f g) ∧ Below w'.heap.size w' w'') := fun w' => momentOf_any a b c d e f g w'
  unfold sevV at *
  go_enter Tryd.func31, Tryd.ntmps31
  go_wp2_with fail
  refine (H1.out _ (up_alloc w _)).mono ?_
  rintro e w1 ⟨rfl, hb1⟩
  have hk := blk_up (blk_new w _) hb1
  have hb1 := up_trans (up_alloc w _) hb1
  go_wp2_with fail
  refine (HM.out _).mono ?_
  rintro e w2 ⟨rfl, hb2⟩
  have hk := blk_up hk (up_trans (up_alloc w1 _) hb2)
  have hb2 := up_trans (up_al hb1 _) hb2
  have c0 := blk_cell hk 0 _ rfl
  have c1 := blk_cell hk 1 _ rfl
  have c2 := blk_cell hk 2 _ rfl
  have c3 := blk_cell hk 3 _ rfl
  have c4 := blk_cell hk 4 _ rfl
  have c5 := blk_cell hk 5 _ rfl
  have c6 := blk_cell hk 6 _ rfl
  have f0 := blk_frozen hk 0
  have f1 := blk_frozen hk 1
  have f2 := blk_frozen hk 2
  have f3 := blk_frozen hk 3
  have f4 := blk_frozen hk 4
  have f5 := blk_frozen hk 5
  have f6 := blk_frozen hk 6
  go_wp2
  refine bodyPost_ret (results_sev2 rfl (.inl rfl) _ _ rfl (set7_blk hk _ _ _ _ _ _ _)) rfl ?_
  exact ⟨rfl, hb2.grown (set7_grown _ _ _ _ _ _ _ _ _) (Nat.le_trans (Nat.le_refl _) hb2.size) (fun k hk => by cases hk; exact Nat.le_refl _)⟩
theorem cells_int : Tryd.prog.cellsOf 3 = 1 := by kernel_rfl
theorem part_int (w : World) (xs : Array Value) (j : Nat) (v : Value) (h : xs[j]? = some v) : (part 3 xs j).run Tryd.prog w = .ok v w := run_part_plain w (by kernel_rfl) h
theorem size_at (w : World) (k : Nat) (x : Int) (h : ([24, 60, 60] : List Int)[k]? = some x) : (Instr.index 123 (.agg #[.int .i64 24, .int .i64 60, .int .i64 60]) (.int .i64 (k : Int))).run Tryd.prog w = .ok (.int .i64 x) w := by
  have hk : k < 3 := (List.getElem?_eq_some_iff.1 h).1
  have p : ∀ j v, (#[Value.int .i64 24, .int .i64 60, .int .i64 60] : Array Value)[j]? = some v → (part 3 #[Value.int .i64 24, .int .i64 60, .int .i64 60] j).run Tryd.prog w = .ok v w := fun j v h => part_int w _ j v h
  have p0 := p 0 _ rfl
  have p1 := p 1 _ rfl
  have p2 := p 2 _ rfl
  match k, hk, h with
  | 0, _, h =>
    cases h
    simp [Instr.index, run_underlying Tryd.underlying123, asIntOf, cells_int, go_sem]
  | 1, _, h =>
    cases h
    simp [Instr.index, run_underlying Tryd.underlying123, asIntOf, cells_int, go_sem]
  | 2, _, h =>
    cases h
    simp [Instr.index, run_underlying Tryd.underlying123, asIntOf, cells_int, go_sem]
set_option maxHeartbeats 1000000 in
theorem SplitR_any (t : Int) (w : World) : Calls Tryd.prog 34 #[.int .i64 t] w fun e w' => e = .returned (retM (momP t)) ∧ Below w.heap.size w w' := by
  by_cases h : 0 ≤ t ∧ t < 32503680000
  · have e : momP t = ([dateY (t / 86400), dateM (t / 86400), dateD (t / 86400), hourT t, minT t, secT t, (t / 86400 + 4) % 7], 0) := if_pos h
    rw [e]
    obtain ⟨t0, t1⟩ := h
    have a1 : ¬ t < 0 := by omega
    have a2 : ¬ 32503680000 ≤ t := by omega
    have k4 : t % 60 = secT t := rfl
    have k5 : t % 86400 / 60 % 60 = minT t := by unfold minT; omega
    have k6 : t % 86400 / 3600 = hourT t := by unfold hourT; omega
    have q : dateQ (t / 86400) = (dateY (t / 86400), dateM (t / 86400), dateD (t / 86400), 0) := if_pos ⟨by omega, by omega⟩
    have HD : Hid (∀ w', Calls Tryd.prog 52 #[.int .i64 (t / 86400)] w' fun e w'' => e = .returned (.tuple #[.int .i64 (dateY (t / 86400)), .int .i64 (dateM (t / 86400)), .int .i64 (dateD (t / 86400)), .int .i64 0]) ∧ w'' = w') := by
      intro w'
      have := dateR_any (t / 86400) w'
      rw [q] at this
      exact this
    rw [← k4, ← k5, ← k6]
    clear e q k4 k5 k6
    generalize dateY (t / 86400) = y at *
    generalize dateM (t / 86400) = m at *
    generalize dateD (t / 86400) = d at *
    go_enter Tryd.func34, Tryd.ntmps34
    go_wp2_with fail
    refine (HD.out _).mono ?_
    rintro e w3 ⟨rfl, rfl⟩
    go_wp2
    go_returns
    exact ⟨rfl, up_alloc w _⟩
  · have e : momP t = ([0, 0, 0, 0, 0, 0, 0], 4) := if_neg h
    rw [e]
    clear e
    go_enter Tryd.func34, Tryd.ntmps34
    by_cases c : t < 0
    · go_wp2
      go_returns
      exact ⟨rfl, up_alloc w _⟩
    · have c2 : 32503680000 ≤ t := by omega
      go_wp2
      go_returns
      exact ⟨rfl, up_alloc w _⟩
end Go.Proofs.YtbnghhmmanleaaaDoor
