/- Bare of the program: what was guarded, where the sum fits. -/
import Derived.Test.YtgphkddcfcmaiabSGuard
import Derived.ChangeKeysEq
namespace Go.Proofs.Ytgphkddcfcmaiab
open Go.RowKit SumPlain
set_option linter.unusedVariables false

theorem Octs.front {w : World} {b off cap n : Nat} {l p q : List Int} (h : Octs w (.slice (some ⟨b, off, none⟩) n cap) l) (hl : l = p ++ q) (hn : n = l.length) : Octs w (.slice (some ⟨b, off, none⟩) p.length cap) p := by
  subst hl
  subst hn
  obtain ⟨hx, h⟩ := h
  refine ⟨fun x hp => hx x (List.mem_append_left _ hp), ?_⟩
  by_cases c : p = []
  · subst c
    exact .inl ⟨rfl, _, _, rfl, fun h => by cases h⟩
  · rcases h with ⟨h0, _⟩ | ⟨hn, b', off', cap', e, hc, hm, hj⟩
    · simp at h0; exact absurd h0.1 c
    · simp at e
      obtain ⟨⟨rfl, rfl⟩, rfl⟩ := e
      rw [List.length_append] at hc
      refine .inr ⟨c, b, off, cap, rfl, by omega, hm, fun j x hjx => hj j x ?_⟩
      rw [List.getElem?_append_left (List.getElem?_eq_some_iff.1 hjx).1]
      exact hjx

theorem part_u8 (w : World) (xs : Array Value) (j : Nat) (v : Value) (h : xs[j]? = some v) : (part 5 xs j).run Try.prog w = .ok v w := run_part_plain w (by kernel_rfl) h

theorem cells_u8 : Try.prog.cellsOf 5 = 1 := by kernel_rfl

/-- Two arrays of four octets, held against each other. -/
theorem eq_four (y0 y1 y2 y3 x0 x1 x2 x3 : Int) (w : World) :
    (Op.equalIn 10000 59 (.agg #[.int .u8 y0, .int .u8 y1, .int .u8 y2, .int .u8 y3]) (.agg #[.int .u8 x0, .int .u8 x1, .int .u8 x2, .int .u8 x3])).run Try.prog w = .ok (decide ([y0, y1, y2, y3] = [x0, x1, x2, x3])) w := by
  obtain ⟨i0, hi, _⟩ := info_some Try.info5
  have e := run_equalIn_array w 9999 #[.int .u8 y0, .int .u8 y1, .int .u8 y2, .int .u8 y3] #[.int .u8 x0, .int .u8 x1, .int .u8 x2, .int .u8 x3] Try.underlying59 hi
  refine e.trans ?_
  clear e
  rw [cells_u8]
  have r : List.range 4 = [0, 1, 2, 3] := rfl
  have q : ∀ (a b : Int), (Op.equalIn 9999 5 (.int .u8 a) (.int .u8 b)).run Try.prog w = .ok (a == b) w := fun a b => run_equalIn_int w 9998 5 .u8 .u8 a b Try.underlying5
  rw [r]
  have p0 := part_u8 w #[.int .u8 y0, .int .u8 y1, .int .u8 y2, .int .u8 y3] 0 (.int .u8 y0) rfl
  have p1 := part_u8 w #[.int .u8 y0, .int .u8 y1, .int .u8 y2, .int .u8 y3] 1 (.int .u8 y1) rfl
  have p2 := part_u8 w #[.int .u8 y0, .int .u8 y1, .int .u8 y2, .int .u8 y3] 2 (.int .u8 y2) rfl
  have p3 := part_u8 w #[.int .u8 y0, .int .u8 y1, .int .u8 y2, .int .u8 y3] 3 (.int .u8 y3) rfl
  have q0 := part_u8 w #[.int .u8 x0, .int .u8 x1, .int .u8 x2, .int .u8 x3] 0 (.int .u8 x0) rfl
  have q1 := part_u8 w #[.int .u8 x0, .int .u8 x1, .int .u8 x2, .int .u8 x3] 1 (.int .u8 x1) rfl
  have q2 := part_u8 w #[.int .u8 x0, .int .u8 x1, .int .u8 x2, .int .u8 x3] 2 (.int .u8 x2) rfl
  have q3 := part_u8 w #[.int .u8 x0, .int .u8 x1, .int .u8 x2, .int .u8 x3] 3 (.int .u8 x3) rfl
  generalize (#[.int .u8 y0, .int .u8 y1, .int .u8 y2, .int .u8 y3] : Array Value) = Y at *
  generalize (#[.int .u8 x0, .int .u8 x1, .int .u8 x2, .int .u8 x3] : Array Value) = X at *
  simp only [Op.eqItems, Sem.run_bind, Nat.mul_one, p0, q0, q, Result.andThen_ok]
  by_cases c0 : y0 = x0
  · by_cases c1 : y1 = x1
    · by_cases c2 : y2 = x2
      · by_cases c3 : y3 = x3
        · simp [p1, p2, p3, q1, q2, q3, q, c0, c1, c2, c3]
        · simp [p1, p2, p3, q1, q2, q3, q, c0, c1, c2, c3]
      · simp [p1, p2, q1, q2, q, c0, c1, c2]
    · simp [p1, q1, q, c0, c1]
  · simp [c0]

end Go.Proofs.Ytgphkddcfcmaiab
