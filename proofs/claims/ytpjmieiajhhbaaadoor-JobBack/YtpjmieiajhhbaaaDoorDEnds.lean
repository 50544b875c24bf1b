/- The program's ends. -/
import Derived.Test.YtpjmieiajhhbaaaDoorDCut
import Derived.Test.YtpjmieiajhhbaaaDoorNItem
namespace Go.Proofs.YtpjmieiajhhbaaaDoor
open Go.RowKit
set_option linter.unusedVariables false
set_option linter.unusedSimpArgs false

def loN (i : Nat) : Int := ([0, 0, 1, 1, 0] : List Int).getD i 0
def hiN (i : Nat) : Int := ([59, 23, 31, 12, 6] : List Int).getD i 0
def topN (i : Nat) : Int := if i = 4 then 7 else hiN i
theorem field_nums {i : Nat} (h : i < 5) : (0 ≤ loN i ∧ loN i ≤ 1) ∧ (6 ≤ hiN i ∧ hiN i ≤ 59) ∧ (hiN i ≤ topN i ∧ topN i ≤ 59) ∧ ([0, 0, 1, 1, 0] : List Int)[i]? = some (loN i) ∧ ([59, 23, 31, 12, 6] : List Int)[i]? = some (hiN i) := by
  match i, h with
  | 0, _ => decide
  | 1, _ => decide
  | 2, _ => decide
  | 3, _ => decide
  | 4, _ => decide
theorem cutQ_parts (l : List Int) (c : Int) : (cutQ l c).1.length ≤ l.length ∧ (cutQ l c).2.1.length ≤ l.length ∧ (∀ x ∈ (cutQ l c).1, x ∈ l) ∧ (∀ x ∈ (cutQ l c).2.1, x ∈ l) := by
  unfold cutQ
  split
  · refine ⟨by simp; omega, by simp, fun x h => List.mem_of_mem_take h, fun x h => List.mem_of_mem_drop h⟩
  · exact ⟨Nat.le_refl _, by simp, fun x h => h, fun x h => by cases h⟩
theorem numQ_bounds (l : List Int) : 0 ≤ (numQ l).1 ∧ (numQ l).1 ≤ 99 := by
  have := numD_bounds l
  unfold numQ
  split
  · exact ⟨by show (0 : Int) ≤ 0; omega, by show (0 : Int) ≤ 99; omega⟩
  · exact ⟨by show 0 ≤ numD l; omega, this.2⟩
/-- The last number's text. -/
def lastT (l : List Int) : List Int := if (cutQ l 45).2.2 then (cutQ l 45).2.1 else (cutQ l 45).1
def endsP (lo hi top : Int) (l : List Int) : Int × Int × Bool × Bool :=
  if l = [42] then (lo, hi, true, true) else ((numQ (cutQ l 45).1).1, (numQ (lastT l)).1, (cutQ l 45).2.2, (numQ (cutQ l 45).1).2 && ((numQ (lastT l)).2 && (decide (lo ≤ (numQ (cutQ l 45).1).1) && (decide ((numQ (cutQ l 45).1).1 ≤ (numQ (lastT l)).1) && decide ((numQ (lastT l)).1 ≤ top)))))
def retE (q : Int × Int × Bool × Bool) : Value := .tuple #[.int .i64 q.1, .int .i64 q.2.1, .bool q.2.2.1, .bool q.2.2.2]
set_option maxHeartbeats 2000000 in
set_option maxRecDepth 20000 in
theorem ends_any (i : Nat) (hi : i < 5) (l : List Int) (hx : ∀ x ∈ l, 0 ≤ x ∧ x ≤ 255) (hm : l.length ≤ 140737488355328) (w : World) (he : Env w) :
    Calls Tryd.prog 102 #[.int .i64 (i : Int), .string (strOfNums l)] w fun e w' => e = .returned (retE (endsP (loN i) (hiN i) (topN i) l)) ∧ Below w.heap.size w w' := by
  obtain ⟨-, -, -, f1, f2⟩ := field_nums hi
  have HL : Hid (∀ w', Below w.heap.size w w' → w'.cell? ⟨1, i, none⟩ = some (.int .i64 (loN i))) := fun w' hb => (he.up hb).lo i _ f1
  have HH : Hid (∀ w', Below w.heap.size w w' → w'.cell? ⟨0, i, none⟩ = some (.int .i64 (hiN i))) := fun w' hb => (he.up hb).hi i _ f2
  have q1 := HL.out w (Below.refl _ _)
  have q2 := HH.out w (Below.refl _ _)
  have hi' : (i : Int) < 5 := by omega
  have HTOP : Hid (topN i = if i = 4 then 7 else hiN i) := rfl
  have C := hid (cutS_any l hx hm 45)
  have e45 : ((45 : UInt8).toNat : Int) = 45 := rfl
  rw [e45] at C
  obtain ⟨p1, p2, p3, p4⟩ := cutQ_parts l 45
  have N1 : Hid (∀ w', Calls Tryd.prog 103 #[.string (strOfNums (cutQ l 45).1)] w' fun e w'' => e = .returned (.tuple #[.int .i64 (numQ (cutQ l 45).1).1, .bool (numQ (cutQ l 45).1).2]) ∧ w'' = w') := fun w' => number_any _ (fun x h => hx x (p3 x h)) (by omega) w'
  have N2 : Hid (∀ w', Calls Tryd.prog 103 #[.string (strOfNums (lastT l))] w' fun e w'' => e = .returned (.tuple #[.int .i64 (numQ (lastT l)).1, .bool (numQ (lastT l)).2]) ∧ w'' = w') := fun w' => number_any _ (by unfold lastT; split; exact fun x h => hx x (p4 x h); exact fun x h => hx x (p3 x h)) (by unfold lastT; split <;> omega) w'
  have LT : Hid (lastT l = if (cutQ l 45).2.2 then (cutQ l 45).2.1 else (cutQ l 45).1) := rfl
  have EP : Hid (endsP (loN i) (hiN i) (topN i) l = if l = [42] then (loN i, hiN i, true, true) else ((numQ (cutQ l 45).1).1, (numQ (lastT l)).1, (cutQ l 45).2.2, (numQ (cutQ l 45).1).2 && ((numQ (lastT l)).2 && (decide (loN i ≤ (numQ (cutQ l 45).1).1) && (decide ((numQ (cutQ l 45).1).1 ≤ (numQ (lastT l)).1) && decide ((numQ (lastT l)).1 ≤ topN i)))))) := rfl
  have se := star_eq l hx
  have b1 := numQ_bounds (cutQ l 45).1
  have b2 := numQ_bounds (lastT l)
  clear f1 f2 p1 p2 p3 p4 he hx
  by_cases h : l = [42]
  · have E : Hid (endsP (loN i) (hiN i) (topN i) l = (loN i, hiN i, true, true)) := EP.out.trans (if_pos h)
    rw [decide_eq_true h] at se
    clear EP h HTOP
    generalize loN i = lo at *
    generalize hiN i = hh at *
    go_enter Tryd.func102, Tryd.ntmps102
    go_wp2_with fail
    go_quiet (fail)
    go_wp2_with fail
    go_returns
    exact ⟨by rw [E.out]; rfl, up_drewN _ _⟩
  · rw [decide_eq_false h] at se
    have E : Hid (endsP (loN i) (hiN i) (topN i) l = ((numQ (cutQ l 45).1).1, (numQ (lastT l)).1, (cutQ l 45).2.2, (numQ (cutQ l 45).1).2 && ((numQ (lastT l)).2 && (decide (loN i ≤ (numQ (cutQ l 45).1).1) && (decide ((numQ (cutQ l 45).1).1 ≤ (numQ (lastT l)).1) && decide ((numQ (lastT l)).1 ≤ topN i)))))) := EP.out.trans (if_neg h)
    clear EP h
    generalize (numQ (cutQ l 45).1).1 = a at *
    generalize (numQ (cutQ l 45).1).2 = oa at *
    generalize (numQ (lastT l)).1 = b at *
    generalize (numQ (lastT l)).2 = ob at *
    generalize lastT l = lt at *
    generalize (cutQ l 45).1 = l1 at *
    generalize (cutQ l 45).2.1 = l2 at *
    generalize (cutQ l 45).2.2 = many at *
    generalize endsP (loN i) (hiN i) (topN i) l = R at *
    generalize loN i = lo at *
    generalize hiN i = hh at *
    generalize topN i = top at *
    obtain ⟨b10, b11⟩ := b1
    obtain ⟨b20, b21⟩ := b2
    have main : ∀ (z4 : Bool), ((i : Int) == 4) = z4 → top = (if z4 then 7 else hh) → Calls Tryd.prog 102 #[.int .i64 (i : Int), .string (strOfNums l)] w fun e w' => e = .returned (retE R) ∧ Below w.heap.size w w' := by
      intro z4 hz ht
      have HT := hid ht
      clear ht
      cases z4
      · cases many
        · have LT2 := hid LT.out
          go_enter Tryd.func102, Tryd.ntmps102
          go_wp2_with fail
          refine (C.out _).mono ?_
          rintro e w1 ⟨rfl, hb1⟩
          have U1 := hid hb1
          have g1 := HL.out w1 U1.out
          go_wp2_with fail
          refine (N1.out _).mono ?_
          rintro e w2 ⟨rfl, rfl⟩
          go_wp2_with fail
          have e2 : lt = _ := LT2.out
          simp only [if_true, if_false, Bool.false_eq_true, reduceIte] at e2
          subst e2
          refine (N2.out _).mono ?_
          rintro e w2 ⟨rfl, rfl⟩
          have hT : top = hh := HT.out
          subst hT
          cases oa
          · have F : Hid (R = (a, b, false, false)) := by unfold Hid; rw [E.out]; simp [*]
            go_wp2_with fail
            go_returns
            exact ⟨by rw [F.out]; rfl, U1.out⟩
          cases ob
          · have F : Hid (R = (a, b, false, false)) := by unfold Hid; rw [E.out]; simp [*]
            go_wp2_with fail
            go_returns
            exact ⟨by rw [F.out]; rfl, U1.out⟩
          by_cases c1 : lo ≤ a
          rotate_left
          · have F : Hid (R = (a, b, false, false)) := by unfold Hid; rw [E.out]; simp [*]
            go_wp2_with fail
            go_returns
            exact ⟨by rw [F.out]; rfl, U1.out⟩
          by_cases c2 : a ≤ b
          rotate_left
          · have F : Hid (R = (a, b, false, false)) := by unfold Hid; rw [E.out]; simp [*]
            go_wp2_with fail
            go_returns
            exact ⟨by rw [F.out]; rfl, U1.out⟩
          have F : Hid (R = (a, b, false, decide (b ≤ top))) := by unfold Hid; rw [E.out]; simp [*]
          go_wp2_with fail
          go_returns
          exact ⟨by rw [F.out]; rfl, U1.out⟩
        · have LT2 := hid LT.out
          go_enter Tryd.func102, Tryd.ntmps102
          go_wp2_with fail
          refine (C.out _).mono ?_
          rintro e w1 ⟨rfl, hb1⟩
          have U1 := hid hb1
          have g1 := HL.out w1 U1.out
          go_wp2_with fail
          refine (N1.out _).mono ?_
          rintro e w2 ⟨rfl, rfl⟩
          go_wp2_with fail
          have e2 : lt = _ := LT2.out
          simp only [if_true, if_false, Bool.false_eq_true, reduceIte] at e2
          subst e2
          refine (N2.out _).mono ?_
          rintro e w2 ⟨rfl, rfl⟩
          have hT : top = hh := HT.out
          subst hT
          cases oa
          · have F : Hid (R = (a, b, true, false)) := by unfold Hid; rw [E.out]; simp [*]
            go_wp2_with fail
            go_returns
            exact ⟨by rw [F.out]; rfl, U1.out⟩
          cases ob
          · have F : Hid (R = (a, b, true, false)) := by unfold Hid; rw [E.out]; simp [*]
            go_wp2_with fail
            go_returns
            exact ⟨by rw [F.out]; rfl, U1.out⟩
          by_cases c1 : lo ≤ a
          rotate_left
          · have F : Hid (R = (a, b, true, false)) := by unfold Hid; rw [E.out]; simp [*]
            go_wp2_with fail
            go_returns
            exact ⟨by rw [F.out]; rfl, U1.out⟩
          by_cases c2 : a ≤ b
          rotate_left
          · have F : Hid (R = (a, b, true, false)) := by unfold Hid; rw [E.out]; simp [*]
            go_wp2_with fail
            go_returns
            exact ⟨by rw [F.out]; rfl, U1.out⟩
          have F : Hid (R = (a, b, true, decide (b ≤ top))) := by unfold Hid; rw [E.out]; simp [*]
          go_wp2_with fail
          go_returns
          exact ⟨by rw [F.out]; rfl, U1.out⟩
      · cases many
        · have LT2 := hid LT.out
          go_enter Tryd.func102, Tryd.ntmps102
          go_wp2_with fail
          refine (C.out _).mono ?_
          rintro e w1 ⟨rfl, hb1⟩
          have U1 := hid hb1
          have g1 := HL.out w1 U1.out
          go_wp2_with fail
          refine (N1.out _).mono ?_
          rintro e w2 ⟨rfl, rfl⟩
          go_wp2_with fail
          have e2 : lt = _ := LT2.out
          simp only [if_true, if_false, Bool.false_eq_true, reduceIte] at e2
          subst e2
          refine (N2.out _).mono ?_
          rintro e w2 ⟨rfl, rfl⟩
          have hT : top = 7 := HT.out
          subst hT
          cases oa
          · have F : Hid (R = (a, b, false, false)) := by unfold Hid; rw [E.out]; simp [*]
            go_wp2_with fail
            go_returns
            exact ⟨by rw [F.out]; rfl, U1.out⟩
          cases ob
          · have F : Hid (R = (a, b, false, false)) := by unfold Hid; rw [E.out]; simp [*]
            go_wp2_with fail
            go_returns
            exact ⟨by rw [F.out]; rfl, U1.out⟩
          by_cases c1 : lo ≤ a
          rotate_left
          · have F : Hid (R = (a, b, false, false)) := by unfold Hid; rw [E.out]; simp [*]
            go_wp2_with fail
            go_returns
            exact ⟨by rw [F.out]; rfl, U1.out⟩
          by_cases c2 : a ≤ b
          rotate_left
          · have F : Hid (R = (a, b, false, false)) := by unfold Hid; rw [E.out]; simp [*]
            go_wp2_with fail
            go_returns
            exact ⟨by rw [F.out]; rfl, U1.out⟩
          have F : Hid (R = (a, b, false, decide (b ≤ 7))) := by unfold Hid; rw [E.out]; simp [*]
          go_wp2_with fail
          go_returns
          exact ⟨by rw [F.out]; rfl, U1.out⟩
        · have LT2 := hid LT.out
          go_enter Tryd.func102, Tryd.ntmps102
          go_wp2_with fail
          refine (C.out _).mono ?_
          rintro e w1 ⟨rfl, hb1⟩
          have U1 := hid hb1
          have g1 := HL.out w1 U1.out
          go_wp2_with fail
          refine (N1.out _).mono ?_
          rintro e w2 ⟨rfl, rfl⟩
          go_wp2_with fail
          have e2 : lt = _ := LT2.out
          simp only [if_true, if_false, Bool.false_eq_true, reduceIte] at e2
          subst e2
          refine (N2.out _).mono ?_
          rintro e w2 ⟨rfl, rfl⟩
          have hT : top = 7 := HT.out
          subst hT
          cases oa
          · have F : Hid (R = (a, b, true, false)) := by unfold Hid; rw [E.out]; simp [*]
            go_wp2_with fail
            go_returns
            exact ⟨by rw [F.out]; rfl, U1.out⟩
          cases ob
          · have F : Hid (R = (a, b, true, false)) := by unfold Hid; rw [E.out]; simp [*]
            go_wp2_with fail
            go_returns
            exact ⟨by rw [F.out]; rfl, U1.out⟩
          by_cases c1 : lo ≤ a
          rotate_left
          · have F : Hid (R = (a, b, true, false)) := by unfold Hid; rw [E.out]; simp [*]
            go_wp2_with fail
            go_returns
            exact ⟨by rw [F.out]; rfl, U1.out⟩
          by_cases c2 : a ≤ b
          rotate_left
          · have F : Hid (R = (a, b, true, false)) := by unfold Hid; rw [E.out]; simp [*]
            go_wp2_with fail
            go_returns
            exact ⟨by rw [F.out]; rfl, U1.out⟩
          have F : Hid (R = (a, b, true, decide (b ≤ 7))) := by unfold Hid; rw [E.out]; simp [*]
          go_wp2_with fail
          go_returns
          exact ⟨by rw [F.out]; rfl, U1.out⟩
    by_cases h4 : i = 4
    · exact main true (by simp [h4]) (by rw [HTOP.out, if_pos h4]; rfl)
    · exact main false (by simp; omega) (by rw [HTOP.out, if_neg h4]; rfl)
end Go.Proofs.YtpjmieiajhhbaaaDoor
