/- keys.firstNumber and keys.first: for any text with an octet at least they return what the plain function 'firstOf' says. -/
import Derived.Test.YtjnbjooagdgfpaaTxt
import Derived.Laws.Bits64
import Derived.Laws.Bits64b
namespace Go.Proofs.Ytjnbjooagdgfpaa
open Go.RowKit
set_option linter.unusedVariables false

/-- A number, octet by octet. -/
def acc (a : Int) (xs : List Int) : Int := xs.foldl (fun a x => a * 256 + x) a

theorem acc_snoc (a : Int) (l : List Int) (x : Int) : acc a (l ++ [x]) = acc a l * 256 + x := by simp [acc]

theorem acc_bd : ∀ (l : List Int) (a B : Int), (∀ x ∈ l, 0 ≤ x ∧ x ≤ 255) → 0 ≤ a → a < B → 0 ≤ acc a l ∧ acc a l < B * 256 ^ l.length
  | [], a, B, _, h0, h1 => by simp [acc]; omega
  | x :: l, a, B, hl, h0, h1 => by
    have hx := hl x (by simp)
    have := acc_bd l (a * 256 + x) (B * 256) (fun y hy => hl y (by simp [hy])) (by omega) (by omega)
    have e : acc a (x :: l) = acc (a * 256 + x) l := rfl
    rw [e, List.length_cons, Int.pow_succ]
    have e2 : B * (256 ^ l.length * 256) = B * 256 * 256 ^ l.length := by rw [Int.mul_comm (256 ^ l.length) 256, Int.mul_assoc]
    rw [e2]
    exact this

theorem acc_small (l : List Int) (hl : ∀ x ∈ l, 0 ≤ x ∧ x ≤ 255) (h : l.length ≤ 7) : 0 ≤ acc 0 l ∧ acc 0 l ≤ 72057594037927935 := by
  have := acc_bd l 0 1 hl (by omega) (by omega)
  have hp : (256 : Int) ^ l.length ≤ 256 ^ 7 := by
    rcases (by omega : l.length = 0 ∨ l.length = 1 ∨ l.length = 2 ∨ l.length = 3 ∨ l.length = 4 ∨ l.length = 5 ∨ l.length = 6 ∨ l.length = 7) with h | h | h | h | h | h | h | h <;> rw [h] <;> decide
  have e7 : (256 : Int) ^ 7 = 72057594037927936 := by decide
  omega

theorem acc_eight (l : List Int) (hl : ∀ x ∈ l, 0 ≤ x ∧ x ≤ 255) (h : l.length = 8) : 0 ≤ acc 0 l ∧ acc 0 l ≤ 18446744073709551615 := by
  have := acc_bd l 0 1 hl (by omega) (by omega)
  rw [h] at this
  have e8 : (256 : Int) ^ 8 = 18446744073709551616 := by decide
  omega

theorem or_join (a x : Int) (h0 : 0 ≤ a) (h1 : a ≤ 72057594037927935) (h2 : 0 ≤ x) (h3 : x ≤ 255) : bits .or .u64 (a * 256) x = a * 256 + x := by
  obtain ⟨A, rfl⟩ := Int.eq_ofNat_of_zero_le h0
  obtain ⟨X, rfl⟩ := Int.eq_ofNat_of_zero_le h2
  have e : ((A : Int) * 256) = ((A * 256 : Nat) : Int) := by omega
  rw [e, bits_or_u64_nat _ _ (by omega) (by omega)]
  have h := Nat.shiftLeft_add_eq_or_of_lt (b := X) (i := 8) (by omega) A
  rw [Nat.shiftLeft_eq] at h
  have h' : A * 256 + X = A * 256 ||| X := h
  omega

theorem drop_take_snoc (s : List Int) (k : Nat) (h : k < s.length) (h1 : 1 ≤ k) : (s.drop 1).take k = (s.drop 1).take (k - 1) ++ [s.getD k 0] := by
  obtain ⟨j, rfl⟩ : ∃ j, k = j + 1 := ⟨k - 1, by omega⟩
  rw [Nat.add_sub_cancel, take_snoc (s.drop 1) j 0 (by simp; omega)]
  simp [List.getD]

def zeroP : Bool × Int × List Int := (false, 0, [])

/-- The part at the beginning of octets, how many octets it has, the error. -/
def firstOf : List Int → (Bool × Int × List Int) × Nat × Int
  | [] => (zeroP, 0, 22)
  | x :: r => if x = 17 then (if r.length < 8 then (zeroP, 0, 8) else ((true, acc 0 (r.take 8) - 9223372036854775808, []), 9, 0))
      else if x = 34 then ((false, 0, (txt [] 1 r).1), (txt [] 1 r).2.1, (txt [] 1 r).2.2) else (zeroP, 0, 22)

def firstRet (s : List Int) : Value := .tuple #[pval (firstOf s).1, .int .i64 (firstOf s).2.1, .int .i64 (firstOf s).2.2]

theorem wrap_back (m : Int) (h0 : 0 ≤ m) (h1 : m ≤ 18446744073709551615) : IntKind.i64.wrap (IntKind.u64.wrap (m - 9223372036854775808)) = m - 9223372036854775808 := by
  simp only [IntKind.wrap, IntKind.signed, IntKind.bits]
  simp
  omega

set_option maxHeartbeats 2000000 in
theorem firstNumber_any (r : List Int) (hs : ∀ x ∈ (17 : Int) :: r, 0 ≤ x ∧ x ≤ 255) (hm : r.length ≤ 35184372088832) (w : World) :
    Calls Try.prog 31 #[.string (strOfNums (17 :: r))] w fun e w' => e = .returned (firstRet (17 :: r)) ∧ Below w.heap.size w w' := by
  have hsz := str_size (17 :: r)
  rw [List.length_cons] at hsz
  by_cases hsh : r.length < 8
  · have HE : Hid (firstRet (17 :: r) = .tuple #[pval zeroP, .int .i64 0, .int .i64 8]) := by
      unfold Hid firstRet
      have e : firstOf (17 :: r) = (zeroP, 0, 8) := by
        simp [firstOf, hsh]
      rw [e]
      rfl
    have hl : ((r.length : Int) + 1) < 9 := by omega
    have U0 : Hid (Below w.heap.size w (w.alloc (.cells #[.bool false, .int .i64 0, .string ⟨#[]⟩] 49))) := up_al (Below.refl _ _) _
    go_enter Try.func31, Try.ntmps31
    go_wp2
    go_returns
    rw [HE.out]
    exact ⟨rfl, U0.out⟩
  · have HE : Hid (firstRet (17 :: r) = .tuple #[.agg #[.bool true, .int .i64 (acc 0 (r.take 8) - 9223372036854775808), .string ⟨#[]⟩], .int .i64 9, .int .i64 0]) := by
      unfold Hid firstRet
      have e : firstOf (17 :: r) = ((true, acc 0 (r.take 8) - 9223372036854775808, []), 9, 0) := by
        simp [firstOf, hsh]
      rw [e]
      rfl
    have hl : ¬ ((r.length : Int) + 1) < 9 := by omega
    have hr : ∀ x ∈ r, 0 ≤ x ∧ x ≤ 255 := fun x hx => hs x (by simp [hx])
    have U0 : Hid (Below w.heap.size w (w.alloc (.cells #[.bool false, .int .i64 0, .string ⟨#[]⟩] 49))) := up_al (Below.refl _ _) _
    go_enter Try.func31, Try.ntmps31
    go_wp2
    go_loopw [5, 6] (fun m i wr => ∃ k : Nat, k ≤ 8 ∧ i = .int .i64 ((k : Int) + 1) ∧ m = .int .u64 (acc 0 (r.take k)) ∧ wr = w.alloc (.cells #[.bool false, .int .i64 0, .string ⟨#[]⟩] 49)) (fun _ i _ => 9 - (intOf i).toNat)
    case atStart => exact ⟨0, Nat.zero_le _, rfl, rfl, rfl⟩
    case round =>
      obtain ⟨k, hk, rfl, rfl, rfl⟩ := hrel
      by_cases hlt : k < 8
      · have hks : k + 1 < (strOfNums (17 :: r)).size := by omega
        have hy := str_at (17 :: r) hs (k + 1) hks
        have e1 : (17 :: r).getD (k + 1) 0 = r.getD k 0 := by simp [List.getD]
        rw [e1] at hy
        have hyb : 0 ≤ r.getD k 0 ∧ r.getD k 0 ≤ 255 := hr _ (by simp [List.getD, (by omega : k < r.length)])
        have hab := acc_small (r.take k) (fun x hx => hr x (List.mem_of_mem_take hx)) (by have := List.length_take_le k r; omega)
        have HA : Hid (acc 0 (r.take (k + 1)) = acc 0 (r.take k) * 256 + r.getD k 0) := by unfold Hid; rw [take_snoc r k 0 (by omega), acc_snoc]
        have ho := or_join (acc 0 (r.take k)) (r.getD k 0) hab.1 hab.2 hyb.1 hyb.2
        obtain ⟨ha0, ha1⟩ := hab
        generalize acc 0 (r.take k) = M at *
        generalize r.getD k 0 = y at *
        clear e1
        go_wp2
        exact ⟨⟨k + 1, by omega, by go_num, by rw [HA.out], trivial⟩, by simp [intOf]; omega⟩
      · obtain rfl : k = 8 := by omega
        have hab := acc_eight (r.take 8) (fun x hx => hr x (List.mem_of_mem_take hx)) (by rw [List.length_take]; omega)
        have hw := wrap_back _ hab.1 hab.2
        obtain ⟨ha0, ha1⟩ := hab
        generalize acc 0 (r.take 8) = M at *
        go_wp2
        go_returns
        rw [HE.out]
        exact ⟨rfl, up_al (Below.refl _ _) _⟩

theorem part_cells (w w0 wr : World) (hw0 : w.alloc (.cells #[.bool false, .int .i64 0, .string ⟨#[]⟩] 49) = w0) (hb : Below w0.heap.size w0 wr) :
    (wr.cell? ⟨w.heap.size, 0, none⟩ = some (.bool false) ∧ wr.cell? ⟨w.heap.size, 1, none⟩ = some (.int .i64 0) ∧ wr.cell? ⟨w.heap.size, 2, none⟩ = some (.string ⟨#[]⟩)) ∧ wr.frozen? ⟨w.heap.size, 0, none⟩ = false ∧ wr.frozen? ⟨w.heap.size, 1, none⟩ = false ∧ wr.frozen? ⟨w.heap.size, 2, none⟩ = false := by
  have HN : w0.heap.size = w.heap.size + 1 := by rw [← hw0]; simp
  have k : ∀ i x, w0.cell? ⟨w.heap.size, i, none⟩ = some x → wr.cell? ⟨w.heap.size, i, none⟩ = some x := fun i x hc => (hb.cell (p := ⟨w.heap.size, i, none⟩) (World.block_lt_of_cell? w0 _ hc)).trans hc
  have f : ∀ i, wr.frozen? ⟨w.heap.size, i, none⟩ = false := fun i => (hb.frozen (p := ⟨w.heap.size, i, none⟩) (by show w.heap.size < _; rw [HN]; omega)).trans (by rw [← hw0]; simp)
  exact ⟨⟨k _ _ (by rw [← hw0]; simp), k _ _ (by rw [← hw0]; simp), k _ _ (by rw [← hw0]; simp)⟩, f 0, f 1, f 2⟩

theorem part_below (w w0 wr : World) (hw0 : w.alloc (.cells #[.bool false, .int .i64 0, .string ⟨#[]⟩] 49) = w0) (hb : Below w0.heap.size w0 wr) (x y z : Value) :
    Below w.heap.size w (((wr.setCell ⟨w.heap.size, 0, none⟩ x).setCell ⟨w.heap.size, 1, none⟩ y).setCell ⟨w.heap.size, 2, none⟩ z) := by
  have U0 : Below w.heap.size w w0 := by rw [← hw0]; exact up_al (Below.refl _ _) _
  exact (((up_trans U0 hb).setCell (Nat.le_refl _) _).setCell (Nat.le_refl _) _).setCell (Nat.le_refl _) _

set_option maxHeartbeats 2000000 in
theorem first_any (x : Int) (r : List Int) (hs : ∀ y ∈ x :: r, 0 ≤ y ∧ y ≤ 255) (hm : r.length ≤ 35184372088831) (w : World) :
    Calls Try.prog 25 #[.string (strOfNums (x :: r))] w fun e w' => e = .returned (firstRet (x :: r)) ∧ Below w.heap.size w w' := by
  have hsz := str_size (x :: r)
  rw [List.length_cons] at hsz
  have hx := str_at (x :: r) hs 0 (by omega)
  have e0 : (x :: r).getD 0 0 = x := rfl
  rw [e0] at hx
  clear e0
  have hxb := hs x (by simp)
  have HS : Hid (∀ y ∈ x :: r, 0 ≤ y ∧ y ≤ 255) := hs
  clear hs
  by_cases c1 : x = 17
  · subst c1
    go_enter Try.func25, Try.ntmps25
    go_wp2_with fail
    refine (firstNumber_any r HS.out (by omega) _).mono ?_
    rintro e w1 ⟨rfl, hb1⟩
    obtain ⟨⟨x0, x1, x2⟩, f0, f1, f2⟩ := part_cells w _ w1 rfl hb1
    have HB := part_below w _ w1 rfl hb1
    have HB' : Hid _ := HB
    clear HB hb1
    have HE : Hid (firstRet (17 :: r) = .tuple #[.agg #[.bool (firstOf (17 :: r)).1.1, .int .i64 (firstOf (17 :: r)).1.2.1, .string (strOfNums (firstOf (17 :: r)).1.2.2)], .int .i64 (firstOf (17 :: r)).2.1, .int .i64 (firstOf (17 :: r)).2.2]) := rfl
    rw [HE.out]
    go_wp2
    refine bodyPost_ret (results_part rfl _ _ rfl (cells_set3 _ _ _ x0 x1 x2)) rfl ?_
    rw [HE.out]
    exact ⟨rfl, HB'.out _ _ _⟩
  · have c1b : (x == 17) = false := by simp [c1]
    by_cases c2 : x = 34
    · subst c2
      go_enter Try.func25, Try.ntmps25
      go_wp2_with fail
      refine (firstText_any (34 :: r) HS.out (by simp) (by simp; omega) _).mono ?_
      rintro e w1 ⟨rfl, hb1⟩
      obtain ⟨⟨x0, x1, x2⟩, f0, f1, f2⟩ := part_cells w _ w1 rfl hb1
      have HB := part_below w _ w1 rfl hb1
      have HB' : Hid _ := HB
      have HE : Hid (firstRet (34 :: r) = .tuple #[pval (false, 0, (txt [] 1 r).1), .int .i64 (txt [] 1 r).2.1, .int .i64 (txt [] 1 r).2.2]) := rfl
      have ed : (34 :: r).drop 1 = r := rfl
      rw [ed]
      clear HB hb1
      generalize txt [] 1 r = F at *
      unfold pval
      go_wp2
      refine bodyPost_ret (results_part rfl _ _ rfl (cells_set3 _ _ _ x0 x1 x2)) rfl ?_
      rw [HE.out]
      exact ⟨rfl, HB'.out _ _ _⟩
    · have c2b : (x == 34) = false := by simp [c2]
      have HE : Hid (firstRet (x :: r) = .tuple #[.agg #[.bool false, .int .i64 0, .string ⟨#[]⟩], .int .i64 0, .int .i64 22]) := by
        unfold Hid firstRet
        have e : firstOf (x :: r) = (zeroP, 0, 22) := by simp [firstOf, c1, c2]
        rw [e]
        rfl
      go_enter Try.func25, Try.ntmps25
      go_wp2
      go_returns
      rw [HE.out]
      exact ⟨rfl, up_al (Below.refl _ _) _⟩
end Go.Proofs.Ytjnbjooagdgfpaa
