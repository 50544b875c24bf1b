/- Rules: the document's Check. -/
import Derived.Test.YtpjmieiajhhbaaaDoorNWords
namespace Go.Proofs.YtpjmieiajhhbaaaDoor
open Go.RowKit
set_option linter.unusedVariables false
set_option linter.unusedSimpArgs false

/-- A rule: five sets and two marks. -/
structure Ru where
  mi : Nat
  ho : Nat
  da : Nat
  mo : Nat
  we : Nat
  ad : Bool
  aw : Bool
def Ru.sets (r : Ru) : List Nat := [r.mi, r.ho, r.da, r.mo, r.we]
def wholes : List Nat := [allN 0 59, allN 0 23, allN 1 31, allN 1 12, allN 0 6]
def Ru.ok (r : Ru) : Prop := ∀ s ∈ r.sets, s < 18446744073709551616
def ruV (r : Ru) : Value := .agg #[.int .u64 (r.mi : Int), .int .u64 (r.ho : Int), .int .u64 (r.da : Int), .int .u64 (r.mo : Int), .int .u64 (r.we : Int), .bool r.ad, .bool r.aw]
/-- May a set be one of a field's? -/
def okS (s w : Nat) : Bool := !(s == 0) && (s &&& (18446744073709551615 - w) == 0)
def okAll (r : Ru) : Bool := okS r.mi (allN 0 59) && (okS r.ho (allN 0 23) && (okS r.da (allN 1 31) && (okS r.mo (allN 1 12) && okS r.we (allN 0 6))))
def checkP (r : Ru) : Int := if okAll r && (!(r.ad && r.da != allN 1 31) && !(r.aw && r.we != allN 0 6)) then 0 else 9
theorem wholes_lt : ∀ s ∈ wholes, s < 18446744073709551616 := by
  intro s hs
  simp only [wholes, List.mem_cons, List.not_mem_nil, or_false] at hs
  rcases hs with rfl | rfl | rfl | rfl | rfl <;> exact setN_lt 64 _
theorem okAll_iff (r : Ru) : okAll r = true ↔ ∀ k, k < 5 → okS (r.sets.getD k 0) (wholes.getD k 0) = true := by
  constructor
  · intro h k hk
    simp only [okAll, Bool.and_eq_true] at h
    obtain ⟨h0, h1, h2, h3, h4⟩ := h
    match k, hk with
    | 0, _ => exact h0
    | 1, _ => exact h1
    | 2, _ => exact h2
    | 3, _ => exact h3
    | 4, _ => exact h4
  · intro h
    simp only [okAll, Bool.and_eq_true]
    exact ⟨h 0 (by omega), h 1 (by omega), h 2 (by omega), h 3 (by omega), h 4 (by omega)⟩
def u64C (l : List Nat) : Array Value := (l.map fun (s : Nat) => Value.int .u64 (s : Int)).toArray
theorem u64C_get {l : List Nat} {k : Nat} (h : k < l.length) : (u64C l)[k]? = some (.int .u64 (l.getD k 0 : Int)) := by
  simp [u64C, List.getD, h]
theorem beq_nat (a b : Nat) : ((a : Int) == (b : Int)) = (a == b) := by
  rw [Bool.eq_iff_iff, beq_iff_eq, beq_iff_eq]
  omega
theorem bne_nat (a b : Nat) : ((a : Int) != (b : Int)) = (a != b) := congrArg (! ·) (beq_nat a b)
theorem blk3 (w : World) (A B C : Obj) : (((w.alloc A).alloc B).alloc C).heap[w.heap.size]? = some A ∧ (((w.alloc A).alloc B).alloc C).heap[w.heap.size + 1]? = some B ∧ (((w.alloc A).alloc B).alloc C).heap[w.heap.size + 2]? = some C := by
  show (((w.heap.push A).push B).push C)[w.heap.size]? = _ ∧ (((w.heap.push A).push B).push C)[w.heap.size + 1]? = _ ∧ (((w.heap.push A).push B).push C)[w.heap.size + 2]? = _
  refine ⟨?_, ?_, ?_⟩
  · rw [Array.getElem?_push, if_neg (by simp only [Array.size_push]; omega), Array.getElem?_push, if_neg (by simp only [Array.size_push]; omega), Array.getElem?_push, if_pos rfl]
  · rw [Array.getElem?_push, if_neg (by simp only [Array.size_push]; omega), Array.getElem?_push, if_pos (by simp only [Array.size_push])]
  · rw [Array.getElem?_push, if_pos (by simp only [Array.size_push])]
theorem andNot_nat (a b : Nat) (ha : a < 18446744073709551616) (hb : b < 18446744073709551616) : (bits .andNot .u64 (a : Int) (b : Int) != 0) = !(a &&& (18446744073709551615 - b) == 0) := by
  rw [u64_andNot_nat a b ha hb]
  exact bne_nat _ 0
set_option maxHeartbeats 2000000 in
set_option maxRecDepth 20000 in
theorem checkR_any (r : Ru) (hr : r.ok) (w : World) : Calls Tryd.prog 50 #[ruV r] w fun e w' => e = .returned (.int .i64 (checkP r)) ∧ Below w.heap.size w w' := by
  have A0 : Hid (∀ w', Calls Tryd.prog 69 #[.int .i64 0, .int .i64 59] w' fun e w'' => e = .returned (.int .u64 (allN 0 59 : Int)) ∧ w'' = w') := fun w' => all_any 0 59 (by omega) w'
  have A1 : Hid (∀ w', Calls Tryd.prog 69 #[.int .i64 0, .int .i64 23] w' fun e w'' => e = .returned (.int .u64 (allN 0 23 : Int)) ∧ w'' = w') := fun w' => all_any 0 23 (by omega) w'
  have A2 : Hid (∀ w', Calls Tryd.prog 69 #[.int .i64 1, .int .i64 31] w' fun e w'' => e = .returned (.int .u64 (allN 1 31 : Int)) ∧ w'' = w') := fun w' => all_any 1 31 (by omega) w'
  have A3 : Hid (∀ w', Calls Tryd.prog 69 #[.int .i64 1, .int .i64 12] w' fun e w'' => e = .returned (.int .u64 (allN 1 12 : Int)) ∧ w'' = w') := fun w' => all_any 1 12 (by omega) w'
  have A4 : Hid (∀ w', Calls Tryd.prog 69 #[.int .i64 0, .int .i64 6] w' fun e w'' => e = .returned (.int .u64 (allN 0 6 : Int)) ∧ w'' = w') := fun w' => all_any 0 6 (by omega) w'
  have HC : Hid (checkP r = if okAll r && (!(r.ad && r.da != allN 1 31) && !(r.aw && r.we != allN 0 6)) then 0 else 9) := rfl
  have HI := hid (okAll_iff r)
  have HOK := hid hr
  have HS : Hid (∀ k, k < 5 → r.sets.getD k 0 < 18446744073709551616) := by
    intro k hk
    refine hr _ ?_
    have : k < r.sets.length := hk
    simp [List.getD, this]
  have HWL : Hid (∀ k, k < 5 → wholes.getD k 0 < 18446744073709551616) := by
    intro k hk
    refine wholes_lt _ ?_
    have : k < wholes.length := hk
    simp [List.getD, this]
  -- the two slices and the box
  have b3 := blk3 w (.cells #[.int .u64 (r.mi : Int), .int .u64 (r.ho : Int), .int .u64 (r.da : Int), .int .u64 (r.mo : Int), .int .u64 (r.we : Int), .bool r.ad, .bool r.aw] 58) (.cells (u64C r.sets) 56) (.cells (u64C wholes) 56)
  have e1 : u64C r.sets = #[.int .u64 (r.mi : Int), .int .u64 (r.ho : Int), .int .u64 (r.da : Int), .int .u64 (r.mo : Int), .int .u64 (r.we : Int)] := rfl
  have e2 : u64C wholes = #[.int .u64 (allN 0 59 : Int), .int .u64 (allN 0 23 : Int), .int .u64 (allN 1 31 : Int), .int .u64 (allN 1 12 : Int), .int .u64 (allN 0 6 : Int)] := rfl
  have B3 : Hid (∀ W, W = (((w.alloc (.cells #[.int .u64 (r.mi : Int), .int .u64 (r.ho : Int), .int .u64 (r.da : Int), .int .u64 (r.mo : Int), .int .u64 (r.we : Int), .bool r.ad, .bool r.aw] 58)).alloc (.cells #[.int .u64 (r.mi : Int), .int .u64 (r.ho : Int), .int .u64 (r.da : Int), .int .u64 (r.mo : Int), .int .u64 (r.we : Int)] 56)).alloc (.cells #[.int .u64 (allN 0 59 : Int), .int .u64 (allN 0 23 : Int), .int .u64 (allN 1 31 : Int), .int .u64 (allN 1 12 : Int), .int .u64 (allN 0 6 : Int)] 56)) →
      W.heap[w.heap.size]? = some (.cells #[.int .u64 (r.mi : Int), .int .u64 (r.ho : Int), .int .u64 (r.da : Int), .int .u64 (r.mo : Int), .int .u64 (r.we : Int), .bool r.ad, .bool r.aw] 58) ∧ W.heap[w.heap.size + 1]? = some (.cells (u64C r.sets) 56) ∧ W.heap[w.heap.size + 2]? = some (.cells (u64C wholes) 56) ∧ Below w.heap.size w W) := by
    intro W hW
    rw [e1, e2] at b3
    rw [← hW] at b3
    refine ⟨b3.1, by rw [e1]; exact b3.2.1, by rw [e2]; exact b3.2.2, ?_⟩
    rw [hW]
    exact up_al (up_al (up_alloc w _) _) _
  clear b3 e1 e2 hr
  unfold ruV
  go_enter Tryd.func50, Tryd.ntmps50
  go_wp2_with fail
  refine (A0.out _).mono ?_
  rintro e w1 ⟨rfl, rfl⟩
  go_wp2_with fail
  refine (A1.out _).mono ?_
  rintro e w1 ⟨rfl, rfl⟩
  go_wp2_with fail
  refine (A2.out _).mono ?_
  rintro e w1 ⟨rfl, rfl⟩
  go_wp2_with fail
  refine (A3.out _).mono ?_
  rintro e w1 ⟨rfl, rfl⟩
  go_wp2_with fail
  refine (A4.out _).mono ?_
  rintro e w1 ⟨rfl, rfl⟩
  go_wp2_with fail
  generalize hW : World.alloc _ _ = W
  obtain ⟨k0, k1, k2, hb⟩ := B3.out W hW.symm
  clear B3 hW A0 A1 A2 A3 A4
  have HB := hid hb
  have K0 := hid k0
  have K1 := hid k1
  have K2 := hid k2
  clear k0 k1 k2 hb
  go_loopw [5] (fun i wr => ∃ k : Nat, k ≤ 5 ∧ i = .int .i64 (k : Int) ∧ Hid (∀ j, j < k → okS (r.sets.getD j 0) (wholes.getD j 0) = true) ∧ Hid (Below W.heap.size W wr)) (fun i _ => (5 - intOf i).toNat)
  case atStart => exact ⟨0, by omega, rfl, fun j hj => by omega, Below.refl _ _⟩
  case round =>
    obtain ⟨k, hk, rfl, HP, HU⟩ := hrel
    by_cases c : k < 5
    · have c' : (k : Int) < 5 := by omega
      have x0 := blk_cell (blk_up K1.out HU.out) k _ (u64C_get (show k < r.sets.length from c))
      have y0 := blk_cell (blk_up K2.out HU.out) k _ (u64C_get (show k < wholes.length from c))
      have hs := HS.out k c
      have hw := HWL.out k c
      have an := andNot_nat _ _ hs hw
      have zz := beq_nat (r.sets.getD k 0) 0
      obtain ⟨z, hz⟩ : ∃ z, z = (r.sets.getD k 0 == 0) := ⟨_, rfl⟩
      obtain ⟨v, hv⟩ : ∃ v, v = (r.sets.getD k 0 &&& (18446744073709551615 - wholes.getD k 0) == 0) := ⟨_, rfl⟩
      have OK : Hid (okS (r.sets.getD k 0) (wholes.getD k 0) = (!z && v)) := by rw [hz, hv]; rfl
      rw [← hv] at an
      rw [← hz] at zz
      clear hz hv hs hw
      obtain ⟨S, hS⟩ : ∃ S, S = r.sets.getD k 0 := ⟨_, rfl⟩
      obtain ⟨T, hT⟩ : ∃ T, T = wholes.getD k 0 := ⟨_, rfl⟩
      have OK' : Hid (okS (r.sets.getD k 0) (wholes.getD k 0) = okS S T) := by rw [hS, hT]; rfl
      rw [← hS, ← hT] at OK
      rw [← hS] at x0 an zz
      rw [← hT] at y0 an
      clear hS hT
      have zz2 : ((S : Int) == 0) = z := zz
      clear zz
      cases z
      · cases v
        · have E9 : Hid (checkP r = 9) := by
            have no : okAll r = false := by
              rw [Bool.eq_false_iff]
              intro q
              have := HI.out.1 q k c
              rw [OK'.out] at this
              exact absurd this (by rw [OK.out]; simp)
            unfold Hid
            rw [HC.out, no]
            rfl
          go_wp2_with fail
          go_quiet (fail)
          go_wp2_with fail
          go_ret
          exact ⟨by rw [E9.out]; rfl, up_trans HB.out (up_trans HU.out (up_drewN _ _))⟩
        · have HP2 : Hid (∀ j, j < k + 1 → okS (r.sets.getD j 0) (wholes.getD j 0) = true) := by
            intro j hj
            by_cases e : j = k
            · subst e
              rw [OK'.out, OK.out]
              rfl
            · exact HP.out j (by omega)
          go_wp2_with fail
          go_quiet (fail)
          go_wp2_with fail
          exact ⟨⟨k + 1, by omega, by go_num, HP2, up_trans HU.out (up_drewN _ _)⟩, by simp [intOf]; omega⟩
      · have E9 : Hid (checkP r = 9) := by
          have no : okAll r = false := by
            rw [Bool.eq_false_iff]
            intro q
            have := HI.out.1 q k c
            rw [OK'.out] at this
            exact absurd this (by rw [OK.out]; simp)
          unfold Hid
          rw [HC.out, no]
          rfl
        go_wp2_with fail
        go_quiet (fail)
        go_wp2_with fail
        go_ret
        exact ⟨by rw [E9.out]; rfl, up_trans HB.out (up_trans HU.out (up_drewN _ _))⟩
    · obtain rfl : k = 5 := by omega
      have all : okAll r = true := HI.out.2 HP.out
      have f2 := blk_cell (blk_up K0.out HU.out) 2 _ rfl
      have f4 := blk_cell (blk_up K0.out HU.out) 4 _ rfl
      have f5 := blk_cell (blk_up K0.out HU.out) 5 _ rfl
      have f6 := blk_cell (blk_up K0.out HU.out) 6 _ rfl
      have g2 : wr.cell? ⟨w.heap.size + 2, 2, none⟩ = some (.int .u64 (allN 1 31 : Int)) := blk_cell (blk_up K2.out HU.out) 2 _ rfl
      have g4 : wr.cell? ⟨w.heap.size + 2, 4, none⟩ = some (.int .u64 (allN 0 6 : Int)) := blk_cell (blk_up K2.out HU.out) 4 _ rfl
      have p2 := bne_nat r.da (allN 1 31)
      have p4 := bne_nat r.we (allN 0 6)
      have HC2 : Hid (checkP r = if (!(r.ad && r.da != allN 1 31) && !(r.aw && r.we != allN 0 6)) then 0 else 9) := by
        have := HC.out
        rw [all, Bool.true_and] at this
        exact this
      clear HC HI HP K0 K1 K2 HS HWL all
      generalize (r.da != allN 1 31) = p at *
      generalize (r.we != allN 0 6) = q at *
      generalize r.ad = ad at *
      generalize r.aw = aw at *
      generalize (r.da : Int) = D at *
      generalize (r.we : Int) = E at *
      generalize (allN 1 31 : Int) = F at *
      generalize (allN 0 6 : Int) = G at *
      cases ad <;> cases aw <;> cases p <;> cases q
      all_goals
        have RV := hid HC2.out
        clear HC2
        go_wp2_with fail
        go_quiet (fail)
        go_wp2_with fail
        go_ret
        exact ⟨by rw [RV.out]; rfl, up_trans HB.out (up_trans HU.out (up_drewN _ _))⟩
end Go.Proofs.YtpjmieiajhhbaaaDoor
