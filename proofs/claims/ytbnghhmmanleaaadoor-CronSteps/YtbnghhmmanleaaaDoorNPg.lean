/- What is wanted of the program; the page's example. -/
import Derived.Test.YtbnghhmmanleaaaDoorNAlive
import Derived.Test.YtbnghhmmanleaaaDoorNNx
import Derived.Test.YtbnghhmmanleaaaDoorNPrint
namespace Go.Proofs.YtbnghhmmanleaaaDoor
open Go.RowKit
set_option linter.unusedVariables false
set_option linter.unusedSimpArgs false

/-- What the program's calls say, in every world that has grown out of w. -/
structure Pg (w : World) : Prop where
  parse : ∀ l : List Int, (∀ x ∈ l, 0 ≤ x ∧ x ≤ 255) → l.length ≤ 140737488355328 → ∀ w', Below w.heap.size w w' → Calls Tryd.prog 8 #[.string (strOfNums l)] w' fun e w'' => e = .returned (retR (parseR l)) ∧ Below w'.heap.size w' w''
  check : ∀ r : Ru, r.ok → ∀ w', Below w.heap.size w w' → Calls Tryd.prog 13 #[ruV r] w' fun e w'' => e = .returned (.int .i64 (checkP r)) ∧ Below w'.heap.size w' w''
  comes : ∀ r : Ru, r.ok → ∀ t w', Below w.heap.size w w' → Calls Tryd.prog 16 #[ruV r, .int .i64 t] w' fun e w'' => e = .returned (.tuple #[.bool (comesP r t).1, .int .i64 (comesP r t).2]) ∧ Below w'.heap.size w' w''
  next : ∀ r : Ru, r.ok → ∀ t w', Below w.heap.size w w' → Calls Tryd.prog 18 #[ruV r, .int .i64 t] w' fun e w'' => NextE r t e ∧ Below w'.heap.size w' w''
  print : ∀ r : Ru, r.ok → ∀ w', Below w.heap.size w w' → Calls Tryd.prog 10 #[ruV r] w' fun e w'' => e = .returned (.tuple #[.string (strOfNums (printP r).1), .int .i64 (printP r).2]) ∧ Below w'.heap.size w' w''
theorem num_any (x : Int) (w : World) : Calls Tryd.prog 12 #[.int .i64 x] w fun e w' => e = .returned (.int .i64 x) ∧ w' = w := by
  go_enter Tryd.func12, Tryd.ntmps12
  go_wp2
  go_ret
  exact ⟨rfl, rfl⟩
theorem pageR_ok : pageR.ok := by
  intro s hs
  simp only [Ru.sets, pageR, List.mem_cons, List.not_mem_nil, or_false] at hs
  omega
set_option maxHeartbeats 1000000 in
theorem alive_any (w : World) (hp : Pg w) (w0 : World) (h0 : Below w.heap.size w w0) : Calls Tryd.prog 15 #[] w0 fun e w' => e = .returned (.bool true) ∧ Below w0.heap.size w0 w' := by
  have HP : Hid (∀ w', Below w.heap.size w w' → Calls Tryd.prog 8 #[.string { data := #[48, 32, 49, 50, 32, 50, 57, 32, 50, 32, 42] }] w' fun e w'' => e = .returned (.tuple #[.agg #[.int .u64 1, .int .u64 4096, .int .u64 536870912, .int .u64 4, .int .u64 127, .bool false, .bool true], .int .i64 0]) ∧ Below w'.heap.size w' w'') := by
    intro w' hb
    have := hp.parse pageT (by decide) (by decide) w' hb
    rw [page_parse] at this
    exact this
  have HN : Hid (∀ w', Below w.heap.size w w' → Calls Tryd.prog 18 #[.agg #[.int .u64 1, .int .u64 4096, .int .u64 536870912, .int .u64 4, .int .u64 127, .bool false, .bool true], .int .i64 1767225600] w' fun e w'' => e = .returned (.tuple #[.int .i64 1835438400, .bool true, .int .i64 0]) ∧ Below w'.heap.size w' w'') := by
    intro w' hb
    refine (hp.next pageR pageR_ok 1767225600 w' hb).mono ?_
    rintro e w'' ⟨⟨a, is, c, rfl, h⟩, hb2⟩
    obtain ⟨rfl, rfl, rfl⟩ := h.one page_nextR
    exact ⟨rfl, hb2⟩
  have H0 := hid h0
  clear hp h0
  go_enter Tryd.func15, Tryd.ntmps15
  go_wp2_with fail
  refine (HP.out _ H0.out).mono ?_
  rintro e w1 ⟨rfl, hb1⟩
  have u1 := hid (up_al hb1 (.cells #[.int .u64 1, .int .u64 4096, .int .u64 536870912, .int .u64 4, .int .u64 127, .bool false, .bool true] 25))
  have U1 := hid (up_trans H0.out u1.out)
  clear hb1
  go_wp2_with fail
  refine (HN.out _ U1.out).mono ?_
  rintro e w2 ⟨rfl, hb2⟩
  have u2 := hid (up_trans u1.out hb2)
  go_wp2_with fail
  refine (num_any _ _).mono ?_
  rintro e w3 ⟨rfl, rfl⟩
  go_wp2_with fail
  refine (num_any _ _).mono ?_
  rintro e w3 ⟨rfl, rfl⟩
  go_wp2_with fail
  go_ret
  exact ⟨rfl, u2.out⟩
/-- The rule's box stays. -/
def ruBox (r : Ru) : Obj := .cells #[.int .u64 (r.mi : Int), .int .u64 (r.ho : Int), .int .u64 (r.da : Int), .int .u64 (r.mo : Int), .int .u64 (r.we : Int), .bool r.ad, .bool r.aw] 24
set_option maxHeartbeats 1000000 in
theorem comes_walk (r : Ru) (hr : r.ok) (t : Int) (w : World) (hp : Pg w) : Calls Tryd.prog 4 #[ruV r, .int .i64 t] w fun e w' => e = .returned (.bool true) ∧ Below w.heap.size w w' := by
  have H1 : Hid (∀ w', Below w.heap.size w w' → Calls Tryd.prog 16 #[ruV r, .int .i64 t] w' fun e w'' => e = .returned (.tuple #[.bool (comesP r t).1, .int .i64 (comesP r t).2]) ∧ Below w'.heap.size w' w'') := hp.comes r hr t
  have H2 : Hid (∀ w', Calls Tryd.prog 17 #[ruV r, .int .i64 t] w' fun e w'' => e = .returned (.tuple #[.bool (comesP r t).1, .int .i64 (comesP r t).2]) ∧ Below w'.heap.size w' w'') := comesR_any r hr t
  have HV := hid (alive_any w hp)
  have k0 := blk_new w (ruBox r)
  have u0 := hid (up_alloc w (ruBox r))
  generalize (comesP r t).1 = a at *
  generalize (comesP r t).2 = b at *
  rw [ruV_form] at *
  unfold ruBox at k0 u0
  clear hp hr
  go_enter Tryd.func4, Tryd.ntmps4
  go_wp2_with fail
  refine (H1.out _ u0.out).mono ?_
  rintro e w1 ⟨rfl, hb1⟩
  have k1 := blk_up k0 hb1
  have u1 := hid (up_trans u0.out hb1)
  have z0 := blk_cell k1 0 _ rfl
  have z1 := blk_cell k1 1 _ rfl
  have z2 := blk_cell k1 2 _ rfl
  have z3 := blk_cell k1 3 _ rfl
  have z4 := blk_cell k1 4 _ rfl
  have z5 := blk_cell k1 5 _ rfl
  have z6 := blk_cell k1 6 _ rfl
  clear hb1 k0 k1
  go_wp2_with fail
  refine (H2.out _).mono ?_
  rintro e w2 ⟨rfl, hb2⟩
  have u2 := hid (up_trans u1.out hb2)
  clear hb2
  go_wp2_with fail
  refine (num_any _ _).mono ?_
  rintro e w3 ⟨rfl, rfl⟩
  go_wp2_with fail
  refine (HV.out _ u2.out).mono ?_
  rintro e w4 ⟨rfl, hb4⟩
  have u4 := hid (up_trans u2.out hb4)
  go_wp2_with fail
  go_ret
  exact ⟨rfl, u4.out⟩
set_option maxHeartbeats 1000000 in
theorem next_walk (r : Ru) (hr : r.ok) (t : Int) (w : World) (hp : Pg w) : Calls Tryd.prog 5 #[ruV r, .int .i64 t] w fun e w' => e = .returned (.bool true) ∧ Below w.heap.size w w' := by
  have H1 : Hid (∀ w', Below w.heap.size w w' → Calls Tryd.prog 18 #[ruV r, .int .i64 t] w' fun e w'' => NextE r t e ∧ Below w'.heap.size w' w'') := hp.next r hr t
  have H2 : Hid (∀ w', Calls Tryd.prog 19 #[ruV r, .int .i64 t] w' fun e w'' => NextE r t e ∧ Below w'.heap.size w' w'') := nextR_any r hr t
  have HV := hid (alive_any w hp)
  have k0 := blk_new w (ruBox r)
  have u0 := hid (up_alloc w (ruBox r))
  rw [ruV_form] at *
  unfold ruBox at k0 u0
  clear hp hr
  go_enter Tryd.func5, Tryd.ntmps5
  go_wp2_with fail
  refine (H1.out _ u0.out).mono ?_
  rintro e w1 ⟨⟨a, is, c, rfl, hq⟩, hb1⟩
  have k1 := blk_up k0 hb1
  have u1 := hid (up_trans u0.out hb1)
  have z0 := blk_cell k1 0 _ rfl
  have z1 := blk_cell k1 1 _ rfl
  have z2 := blk_cell k1 2 _ rfl
  have z3 := blk_cell k1 3 _ rfl
  have z4 := blk_cell k1 4 _ rfl
  have z5 := blk_cell k1 5 _ rfl
  have z6 := blk_cell k1 6 _ rfl
  have HQ := hid hq
  clear hb1 k0 k1 hq
  go_wp2_with fail
  refine (H2.out _).mono ?_
  rintro e w2 ⟨⟨a', is', c', rfl, hq'⟩, hb2⟩
  obtain ⟨rfl, rfl, rfl⟩ := hq'.one HQ.out
  have u2 := hid (up_trans u1.out hb2)
  clear hb2 hq'
  go_wp2_with fail
  refine (num_any _ _).mono ?_
  rintro e w3 ⟨rfl, rfl⟩
  go_wp2_with fail
  refine (HV.out _ u2.out).mono ?_
  rintro e w4 ⟨rfl, hb4⟩
  have u4 := hid (up_trans u2.out hb4)
  go_wp2_with fail
  go_ret
  exact ⟨rfl, u4.out⟩
end Go.Proofs.YtbnghhmmanleaaaDoor
