/- The program's dayFits; the rule's sets and marks as arrays. -/
import Derived.Test.YtpjmieiajhhbaaaDoorDLeaf
import Derived.Test.YtpjmieiajhhbaaaDoorGD
namespace Go.Proofs.YtpjmieiajhhbaaaDoor
open Go.RowKit
set_option linter.unusedVariables false
set_option linter.unusedSimpArgs false

def fitsP (r : Ru) (d wd : Nat) : Bool := if r.ad || r.aw then r.da.testBit d && r.we.testBit wd else r.da.testBit d || r.we.testBit wd
theorem allN_bit (a b j : Nat) (hj : j < 64) : (allN a b).testBit j = (decide (a ≤ j) && decide (j ≤ b)) := by
  unfold allN
  rw [setN_bit, decide_eq_true hj, Bool.true_and]
theorem fits_day (r : Ru) (hc : checkP r = 0) (m d wd : Nat) (d0 : 1 ≤ d) (d1 : d ≤ 31) (w1 : wd ≤ 6) : dayOk r m d wd = (r.mo.testBit m && fitsP r d wd) := by
  unfold checkP at hc
  have h : (okAll r && (!(r.ad && r.da != allN 1 31) && !(r.aw && r.we != allN 0 6))) = true := Classical.byContradiction fun q => by rw [if_neg q] at hc; cases hc
  rw [Bool.and_eq_true, Bool.and_eq_true] at h
  obtain ⟨-, h1, h2⟩ := h
  have a1 : r.ad = true → r.da.testBit d = true := by
    intro q
    rw [q] at h1
    have e : r.da = allN 1 31 := by simpa using h1
    rw [e, allN_bit 1 31 d (by omega)]
    simp
    omega
  have a2 : r.aw = true → r.we.testBit wd = true := by
    intro q
    rw [q] at h2
    have e : r.we = allN 0 6 := by simpa using h2
    rw [e, allN_bit 0 6 wd (by omega)]
    simp
    omega
  unfold dayOk fitsP
  generalize r.da.testBit d = x at *
  generalize r.we.testBit wd = y at *
  generalize r.ad = p at *
  generalize r.aw = q at *
  cases p <;> cases q <;> simp_all
set_option maxHeartbeats 1000000 in
theorem dayFits_any (r : Ru) (hr : r.ok) (d wd : Nat) (hd : d < 64) (hw : wd < 64) (w : World) :
    Calls Tryd.prog 108 #[ruV r, .int .i64 (d : Int), .int .i64 (wd : Int)] w fun e w' => e = .returned (.bool (fitsP r d wd)) ∧ Below w.heap.size w w' := by
  have H1 : Hid (∀ w', Calls Tryd.prog 93 #[.int .u64 (r.da : Int), .int .i64 (d : Int)] w' fun e w'' => e = .returned (.bool (r.da.testBit d)) ∧ w'' = w') := fun w' => hasP_any _ _ (hr _ (by simp [Ru.sets])) hd w'
  have H2 : Hid (∀ w', Calls Tryd.prog 93 #[.int .u64 (r.we : Int), .int .i64 (wd : Int)] w' fun e w'' => e = .returned (.bool (r.we.testBit wd)) ∧ w'' = w') := fun w' => hasP_any _ _ (hr _ (by simp [Ru.sets])) hw w'
  have HD : Hid (fitsP r d wd = if r.ad || r.aw then r.da.testBit d && r.we.testBit wd else r.da.testBit d || r.we.testBit wd) := rfl
  clear hr
  generalize r.da.testBit d = x at *
  generalize r.we.testBit wd = y at *
  rw [ruV_form]
  generalize r.ad = ad at *
  generalize r.aw = aw at *
  have main : ∀ (b : Bool), (ad || aw) = b → Calls Tryd.prog 108 #[.agg #[.int .u64 (r.mi : Int), .int .u64 (r.ho : Int), .int .u64 (r.da : Int), .int .u64 (r.mo : Int), .int .u64 (r.we : Int), .bool ad, .bool aw], .int .i64 (d : Int), .int .i64 (wd : Int)] w fun e w' => e = .returned (.bool (fitsP r d wd)) ∧ Below w.heap.size w w' := by
    intro b hb
    have R := hid HD.out
    rw [hb] at R
    cases ad <;> cases aw <;> cases b <;> simp at hb
    all_goals
      cases x
      · go_enter Tryd.func108, Tryd.ntmps108
        go_wp2_with fail
        refine (H1.out _).mono ?_
        rintro e w1 ⟨rfl, rfl⟩
        go_wp2_with fail
        try (refine (H2.out _).mono ?_; rintro e w1 ⟨rfl, rfl⟩; go_wp2_with fail)
        go_ret
        exact ⟨by rw [R.out]; rfl, up_alloc w _⟩
      · go_enter Tryd.func108, Tryd.ntmps108
        go_wp2_with fail
        refine (H1.out _).mono ?_
        rintro e w1 ⟨rfl, rfl⟩
        go_wp2_with fail
        try (refine (H2.out _).mono ?_; rintro e w1 ⟨rfl, rfl⟩; go_wp2_with fail)
        go_ret
        exact ⟨by rw [R.out]; rfl, up_alloc w _⟩
  exact main _ rfl
def boolC (l : List Bool) : Array Value := (l.map Value.bool).toArray
def Ru.marks (r : Ru) : List Bool := [false, false, r.ad, false, r.aw]
theorem anyOf_any (r : Ru) (w : World) : Calls Tryd.prog 90 #[ruV r] w fun e w' => e = .returned (.agg #[.bool false, .bool false, .bool r.ad, .bool false, .bool r.aw]) ∧ Below w.heap.size w w' := by
  rw [ruV_form]
  go_enter Tryd.func90, Tryd.ntmps90
  go_wp2
  go_returns
  exact ⟨rfl, up_al (up_alloc w _) _⟩
theorem setsOf_any (r : Ru) (w : World) : Calls Tryd.prog 91 #[ruV r] w fun e w' => e = .returned (.agg #[.int .u64 (r.mi : Int), .int .u64 (r.ho : Int), .int .u64 (r.da : Int), .int .u64 (r.mo : Int), .int .u64 (r.we : Int)]) ∧ Below w.heap.size w w' := by
  rw [ruV_form]
  go_enter Tryd.func91, Tryd.ntmps91
  go_wp2
  go_returns
  exact ⟨rfl, up_al (up_alloc w _) _⟩
theorem cells_u64 : Tryd.prog.cellsOf 56 = 1 := by kernel_rfl
theorem part_u64 (w : World) (xs : Array Value) (j : Nat) (v : Value) (h : xs[j]? = some v) : (part 56 xs j).run Tryd.prog w = .ok v w := run_part_plain w (by kernel_rfl) h
theorem at_u64 (a b c d e : Value) (k : Nat) (v : Value) (h : ([a, b, c, d, e] : List Value)[k]? = some v) (w : World) : (Instr.index 138 (.agg #[a, b, c, d, e]) (.int .i64 (k : Int))).run Tryd.prog w = .ok v w := by
  have hk : k < 5 := (List.getElem?_eq_some_iff.1 h).1
  have p : ∀ j v, (#[a, b, c, d, e] : Array Value)[j]? = some v → (part 56 #[a, b, c, d, e] j).run Tryd.prog w = .ok v w := fun j v h => part_u64 w _ j v h
  have p0 := p 0 _ rfl
  have p1 := p 1 _ rfl
  have p2 := p 2 _ rfl
  have p3 := p 3 _ rfl
  have p4 := p 4 _ rfl
  match k, hk, h with
  | 0, _, h =>
    cases h
    simp [Instr.index, run_underlying Tryd.underlying138, asIntOf, cells_u64, go_sem]
  | 1, _, h =>
    cases h
    simp [Instr.index, run_underlying Tryd.underlying138, asIntOf, cells_u64, go_sem]
  | 2, _, h =>
    cases h
    simp [Instr.index, run_underlying Tryd.underlying138, asIntOf, cells_u64, go_sem]
  | 3, _, h =>
    cases h
    simp [Instr.index, run_underlying Tryd.underlying138, asIntOf, cells_u64, go_sem]
  | 4, _, h =>
    cases h
    simp [Instr.index, run_underlying Tryd.underlying138, asIntOf, cells_u64, go_sem]
theorem cells_str : Tryd.prog.cellsOf 9 = 1 := by kernel_rfl
theorem part_str (w : World) (xs : Array Value) (j : Nat) (v : Value) (h : xs[j]? = some v) : (part 9 xs j).run Tryd.prog w = .ok v w := run_part_plain w (by kernel_rfl) h
theorem at_str (a b c d e : Value) (k : Nat) (v : Value) (h : ([a, b, c, d, e] : List Value)[k]? = some v) (w : World) : (Instr.index 135 (.agg #[a, b, c, d, e]) (.int .i64 (k : Int))).run Tryd.prog w = .ok v w := by
  have hk : k < 5 := (List.getElem?_eq_some_iff.1 h).1
  have p : ∀ j v, (#[a, b, c, d, e] : Array Value)[j]? = some v → (part 9 #[a, b, c, d, e] j).run Tryd.prog w = .ok v w := fun j v h => part_str w _ j v h
  have p0 := p 0 _ rfl
  have p1 := p 1 _ rfl
  have p2 := p 2 _ rfl
  have p3 := p 3 _ rfl
  have p4 := p 4 _ rfl
  match k, hk, h with
  | 0, _, h =>
    cases h
    simp [Instr.index, run_underlying Tryd.underlying135, asIntOf, cells_str, go_sem]
  | 1, _, h =>
    cases h
    simp [Instr.index, run_underlying Tryd.underlying135, asIntOf, cells_str, go_sem]
  | 2, _, h =>
    cases h
    simp [Instr.index, run_underlying Tryd.underlying135, asIntOf, cells_str, go_sem]
  | 3, _, h =>
    cases h
    simp [Instr.index, run_underlying Tryd.underlying135, asIntOf, cells_str, go_sem]
  | 4, _, h =>
    cases h
    simp [Instr.index, run_underlying Tryd.underlying135, asIntOf, cells_str, go_sem]
end Go.Proofs.YtpjmieiajhhbaaaDoor
