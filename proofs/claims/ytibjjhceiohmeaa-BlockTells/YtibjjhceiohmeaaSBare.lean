/- Bare of the program: what was guarded, where the sum fits. -/
import Derived.Test.YtibjjhceiohmeaaSGuard
import Derived.ChangeKeysEq
namespace Go.Proofs.Ytibjjhceiohmeaa
open Go.RowKit SumPlain
set_option linter.unusedVariables false

theorem Octs.front {w : World} {b off cap n : Nat} {l p q : List Int} (h : Octs w (.slice (some ⟨b, off, none⟩) n cap) l) (hl : l = p ++ q) (hn : n = l.length) : Octs w (.slice (some ⟨b, off, none⟩) p.length cap) p := by
  subst hl
  subst hn
  obtain ⟨hx, h⟩ := h
  refine ⟨fun x hp => hx x (List.mem_append_left _ hp), ?_⟩
  by_cases c : p = []
  · subst c
    exact .inl ⟨rfl, _, _, rfl, fun h => by cases h⟩
  · rcases h with ⟨h0, _⟩ | ⟨hn, b', off', cap', e, hc, hm, hj⟩
    · simp at h0; exact absurd h0.1 c
    · simp at e
      obtain ⟨⟨rfl, rfl⟩, rfl⟩ := e
      rw [List.length_append] at hc
      refine .inr ⟨c, b, off, cap, rfl, by omega, hm, fun j x hjx => hj j x ?_⟩
      rw [List.getElem?_append_left (List.getElem?_eq_some_iff.1 hjx).1]
      exact hjx

theorem part_u8 (w : World) (xs : Array Value) (j : Nat) (v : Value) (h : xs[j]? = some v) : (part 5 xs j).run Try.prog w = .ok v w := run_part_plain w (by kernel_rfl) h

theorem cells_u8 : Try.prog.cellsOf 5 = 1 := by kernel_rfl

/-- Two arrays of four octets, held against each other. -/
theorem eq_four (y0 y1 y2 y3 x0 x1 x2 x3 : Int) (w : World) :
    (Op.equalIn 10000 71 (.agg #[.int .u8 y0, .int .u8 y1, .int .u8 y2, .int .u8 y3]) (.agg #[.int .u8 x0, .int .u8 x1, .int .u8 x2, .int .u8 x3])).run Try.prog w = .ok (decide ([y0, y1, y2, y3] = [x0, x1, x2, x3])) w := by
  obtain ⟨i0, hi, _⟩ := info_some Try.info5
  have e := run_equalIn_array w 9999 #[.int .u8 y0, .int .u8 y1, .int .u8 y2, .int .u8 y3] #[.int .u8 x0, .int .u8 x1, .int .u8 x2, .int .u8 x3] Try.underlying71 hi
  refine e.trans ?_
  clear e
  rw [cells_u8]
  have r : List.range 4 = [0, 1, 2, 3] := rfl
  have q : ∀ (a b : Int), (Op.equalIn 9999 5 (.int .u8 a) (.int .u8 b)).run Try.prog w = .ok (a == b) w := fun a b => run_equalIn_int w 9998 5 .u8 .u8 a b Try.underlying5
  rw [r]
  have p0 := part_u8 w #[.int .u8 y0, .int .u8 y1, .int .u8 y2, .int .u8 y3] 0 (.int .u8 y0) rfl
  have p1 := part_u8 w #[.int .u8 y0, .int .u8 y1, .int .u8 y2, .int .u8 y3] 1 (.int .u8 y1) rfl
  have p2 := part_u8 w #[.int .u8 y0, .int .u8 y1, .int .u8 y2, .int .u8 y3] 2 (.int .u8 y2) rfl
  have p3 := part_u8 w #[.int .u8 y0, .int .u8 y1, .int .u8 y2, .int .u8 y3] 3 (.int .u8 y3) rfl
  have q0 := part_u8 w #[.int .u8 x0, .int .u8 x1, .int .u8 x2, .int .u8 x3] 0 (.int .u8 x0) rfl
  have q1 := part_u8 w #[.int .u8 x0, .int .u8 x1, .int .u8 x2, .int .u8 x3] 1 (.int .u8 x1) rfl
  have q2 := part_u8 w #[.int .u8 x0, .int .u8 x1, .int .u8 x2, .int .u8 x3] 2 (.int .u8 x2) rfl
  have q3 := part_u8 w #[.int .u8 x0, .int .u8 x1, .int .u8 x2, .int .u8 x3] 3 (.int .u8 x3) rfl
  generalize (#[.int .u8 y0, .int .u8 y1, .int .u8 y2, .int .u8 y3] : Array Value) = Y at *
  generalize (#[.int .u8 x0, .int .u8 x1, .int .u8 x2, .int .u8 x3] : Array Value) = X at *
  simp only [Op.eqItems, Sem.run_bind, Nat.mul_one, p0, q0, q, Result.andThen_ok]
  by_cases c0 : y0 = x0
  · by_cases c1 : y1 = x1
    · by_cases c2 : y2 = x2
      · by_cases c3 : y3 = x3
        · simp [p1, p2, p3, q1, q2, q3, q, c0, c1, c2, c3]
        · simp [p1, p2, p3, q1, q2, q3, q, c0, c1, c2, c3]
      · simp [p1, p2, q1, q2, q, c0, c1, c2]
    · simp [p1, q1, q, c0, c1]
  · simp [c0]

set_option maxHeartbeats 1000000 in
theorem bare_long (p : List Int) (y0 y1 y2 y3 : Int) (b off cap n : Nat) (w : World) (hn : n = p.length + 4) (hv : Octs w (.slice (some ⟨b, off, none⟩) n cap) (p ++ [y0, y1, y2, y3])) (hc : n ≤ cap) (hm : cap ≤ maxLen) (hl : n ≤ 140737488355328) :
    Calls Try.prog 30 #[.slice (some ⟨b, off, none⟩) n cap] w fun e w' => ∃ v', e = .returned (.tuple #[v', .int .i64 (if [y0, y1, y2, y3] = lastL (ext ones p) then 0 else 21)]) ∧ OwnB w' w.heap.size v' (if [y0, y1, y2, y3] = lastL (ext ones p) then p else []) ∧ Below w.heap.size w w' := by
  have HV : Hid (Octs w (.slice (some ⟨b, off, none⟩) n cap) (p ++ [y0, y1, y2, y3])) := hv
  have HP : Hid (Octs w (.slice (some ⟨b, off, none⟩) p.length cap) p) := hv.front rfl (by simp [hn])
  have hcell : ∀ j x, [y0, y1, y2, y3][j]? = some x → w.cell? ⟨b, off + (p.length + j), none⟩ = some (.int .u8 x) := by
    intro j x hj
    rcases hv.2 with ⟨h0, _⟩ | ⟨_, b', off', cap', e, _, _, hjj⟩
    · simp at h0
    · simp at e
      obtain ⟨⟨rfl, rfl⟩, _, rfl⟩ := e
      exact hjj (p.length + j) x (by rw [List.getElem?_append_right (by omega)]; simpa using hj)
  have k0 := hcell 0 y0 rfl
  have k1 := hcell 1 y1 rfl
  have k2 := hcell 2 y2 rfl
  have k3 := hcell 3 y3 rfl
  simp only [← Nat.add_assoc, Nat.add_zero] at k0 k1 k2 k3
  clear hcell hv
  obtain ⟨x0, x1, x2, x3, hx, b0, b1, b2, b3⟩ := lastL_four (ext ones p)
  have HX : Hid (lastL (ext ones p) = [x0, x1, x2, x3]) := hx
  rw [hx]
  clear hx
  subst hn
  unfold maxLen at hm
  have g1 : (0 : Int) ≤ (p.length : Int) := by omega
  have g2 : (p.length : Int) ≤ (cap : Int) := by omega
  have g3 : ((p.length + 4 : Nat) : Int) ≤ (cap : Int) := by omega
  have g4 : (p.length : Int) + 4 ≤ (cap : Int) := by omega
  have g5 : (p.length : Int) ≤ (p.length : Int) + 4 := by omega
  have g6 : ¬ cap = p.length := by omega
  have g7 : ¬ p.length = cap := by omega
  have harr : ∀ (b o c : Nat) (w : World), (Instr.arrayAt 71 (.slice (some ⟨b, o, none⟩) 4 c)).run Try.prog w = .ok (.pointer (some ⟨b, o, none⟩)) w := by
    intro b o c w
    simp [Instr.arrayAt, run_underlying Try.underlying71]
  have n0 := World.new_ne w _ k0
  have n1 := World.new_ne w _ k1
  have n2 := World.new_ne w _ k2
  have n3 := World.new_ne w _ k3
  by_cases c : [y0, y1, y2, y3] = [x0, x1, x2, x3]
  · have heq := eq_four y0 y1 y2 y3 x0 x1 x2 x3
    rw [decide_eq_true c] at heq
    rw [if_pos c, if_pos c]
    clear c
    go_enter Try.func30, Try.ntmps30
    go_wp2_with fail
    go_region_held3 (fun w' => w'.cell? ⟨b, off + p.length, none⟩ = some (.int .u8 y0) ∧ w'.cell? ⟨b, off + p.length + 1, none⟩ = some (.int .u8 y1) ∧ w'.cell? ⟨b, off + p.length + 2, none⟩ = some (.int .u8 y2) ∧ w'.cell? ⟨b, off + p.length + 3, none⟩ = some (.int .u8 y3)) (go_keep) (first
      | (go_at_call 44; refine (sum_any p _ _ (HP.out.up (up_dr (Below.refl _ _)))).mono ?_; rintro e w1 ⟨rfl, rfl⟩)
      | (go_at_call 43; refine (octets_any _ x0 x1 x2 x3 HX.out _).mono ?_; rintro e w2 ⟨rfl, rfl⟩))
    all_goals
      go_wp2_with (at_builtin; refine wpList_append_octs _ rfl _ _ rfl w.heap.size _ [] rfl (World.ownsRow_nil _ _ _ _) _ p rfl (HP.out.up (by repeat (first | exact Below.refl _ _ | apply up_dr | apply up_al))) (by simp; omega) (by simp; omega) ?_)
      intro v5 w5 hown5 hg5
      go_wp2
      go_ret2
      refine ⟨_, rfl, hown5, ?_⟩
      refine Below.grown (by repeat (first | exact Below.refl _ _ | apply up_dr | apply up_al)) hg5 (by simp; omega) (by simp [Value.ownBlock])
  · have heq := eq_four y0 y1 y2 y3 x0 x1 x2 x3
    rw [decide_eq_false c] at heq
    rw [if_neg c, if_neg c]
    clear c
    go_enter Try.func30, Try.ntmps30
    go_wp2_with fail
    go_region_held3 (fun w' => w'.cell? ⟨b, off + p.length, none⟩ = some (.int .u8 y0) ∧ w'.cell? ⟨b, off + p.length + 1, none⟩ = some (.int .u8 y1) ∧ w'.cell? ⟨b, off + p.length + 2, none⟩ = some (.int .u8 y2) ∧ w'.cell? ⟨b, off + p.length + 3, none⟩ = some (.int .u8 y3)) (go_keep) (first
      | (go_at_call 44; refine (sum_any p _ _ (HP.out.up (up_dr (Below.refl _ _)))).mono ?_; rintro e w1 ⟨rfl, rfl⟩)
      | (go_at_call 43; refine (octets_any _ x0 x1 x2 x3 HX.out _).mono ?_; rintro e w2 ⟨rfl, rfl⟩))
    all_goals
      go_wp2
      go_ret2
      exact ⟨_, rfl, OwnB.nil _ _, by repeat (first | exact Below.refl _ _ | apply up_dr | apply up_al)⟩
end Go.Proofs.Ytibjjhceiohmeaa
