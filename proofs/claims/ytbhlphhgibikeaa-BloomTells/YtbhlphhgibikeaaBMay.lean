/- Whether a filter may be: the program's and the document's; a key's places. -/
import Derived.Test.YtbhlphhgibikeaaBHash
namespace Go.Proofs.Ytbhlphhgibikeaa
open Go.RowKit
set_option linter.unusedVariables false

def mayB (k : Int) (n : Nat) : Bool := decide (1 ≤ k) && (decide (k ≤ 8) && (decide (1 ≤ n) && decide (n ≤ 8192)))

theorem mayBe_any (k : Int) (a : Option Addr) (n c : Nat) (w : World) :
    Calls Try.prog 30 #[.agg #[.int .i64 k, .slice a n c]] w fun e w' => e = .returned (.bool (mayB k n)) ∧ w' = w.alloc (.cells #[.int .i64 k, .slice a n c] 27) := by
  go_enter Try.func30, Try.ntmps30
  by_cases c1 : 1 ≤ k
  · by_cases c2 : k ≤ 8
    · by_cases c3 : 1 ≤ n
      · have c3' : (1 : Int) ≤ (n : Int) := by omega
        by_cases c4 : n ≤ 8192
        · have c4' : (n : Int) ≤ 8192 := by omega
          have HM : Hid (true = mayB k n) := by unfold Hid mayB; simp [c1, c2, c3, c4]
          go_wp2
          go_ret
          exact ⟨ret_bool HM.out, rfl⟩
        · have c4' : ¬ (n : Int) ≤ 8192 := by omega
          have HM : Hid (false = mayB k n) := by unfold Hid mayB; simp [c4]
          go_wp2
          go_ret
          exact ⟨ret_bool HM.out, rfl⟩
      · have c3' : ¬ (1 : Int) ≤ (n : Int) := by omega
        have HM : Hid (false = mayB k n) := by unfold Hid mayB; simp [c3]
        go_wp2
        go_ret
        exact ⟨ret_bool HM.out, rfl⟩
    · have HM : Hid (false = mayB k n) := by unfold Hid mayB; simp [c2]
      go_wp2
      go_ret
      exact ⟨ret_bool HM.out, rfl⟩
  · have HM : Hid (false = mayB k n) := by unfold Hid mayB; simp [c1]
    go_wp2
    go_ret
    exact ⟨ret_bool HM.out, rfl⟩

/-- What the document answers. -/
def chkE (k : Int) (n : Nat) : Int := if mayB k n then 0 else 9

theorem check_any (k : Int) (a : Option Addr) (n c : Nat) (w : World) :
    Calls Try.prog 31 #[.agg #[.int .i64 k, .slice a n c]] w fun e w' => e = .returned (.int .i64 (chkE k n)) ∧ w' = w.alloc (.cells #[.int .i64 k, .slice a n c] 25) := by
  go_enter Try.func31, Try.ntmps31
  by_cases c1 : k < 1
  · have HM : Hid ((9 : Int) = chkE k n) := by unfold Hid chkE mayB; simp; omega
    go_wp2
    go_ret
    exact ⟨ret_int HM.out, rfl⟩
  · by_cases c2 : 8 < k
    · have HM : Hid ((9 : Int) = chkE k n) := by unfold Hid chkE mayB; simp; omega
      go_wp2
      go_ret
      exact ⟨ret_int HM.out, rfl⟩
    · by_cases c3 : n < 1
      · have c3' : (n : Int) < 1 := by omega
        have HM : Hid ((9 : Int) = chkE k n) := by unfold Hid chkE mayB; simp; omega
        go_wp2
        go_ret
        exact ⟨ret_int HM.out, rfl⟩
      · have c3' : ¬ (n : Int) < 1 := by omega
        by_cases c4 : 8192 < n
        · have c4' : (8192 : Int) < (n : Int) := by omega
          have HM : Hid ((9 : Int) = chkE k n) := by unfold Hid chkE mayB; simp; omega
          go_wp2
          go_ret
          exact ⟨ret_int HM.out, rfl⟩
        · have c4' : ¬ (8192 : Int) < (n : Int) := by omega
          have HM : Hid ((0 : Int) = chkE k n) := by unfold Hid chkE mayB; rw [if_pos (by simp; omega)]
          go_wp2
          go_ret
          exact ⟨ret_int HM.out, rfl⟩

/-- A key's places: its hash, which of them, how many octets. -/
def lowN (h : Int) : Nat := h.toNat % 4294967296
def highN (h : Int) : Nat := h.toNat / 4294967296 ||| 1
def plc (h : Int) (i n : Nat) : Nat := (lowN h + i * highN h) % (8 * n)

theorem lowN_lt (h : Int) : lowN h ≤ 4294967295 := by unfold lowN; omega
theorem highN_lt {h : Int} (h1 : h ≤ 18446744073709551615) : highN h ≤ 4294967295 := by
  have h2 : h.toNat / 4294967296 < 2 ^ 32 := by omega
  have := Nat.or_lt_two_pow h2 (show 1 < 2 ^ 32 by decide)
  unfold highN
  omega
theorem low_eq {h : Int} (h0 : 0 ≤ h) (h1 : h ≤ 18446744073709551615) : bits .and .u64 h 4294967295 = (lowN h : Int) := by
  rw [u64_and h 4294967295 h0 (by omega) (by omega) (by omega)]
  unfold lowN
  rw [show ((4294967295 : Int).toNat) = 2 ^ 32 - 1 from rfl, Nat.and_two_pow_sub_one_eq_mod]
theorem high_eq {h : Int} (h0 : 0 ≤ h) (h1 : h ≤ 18446744073709551615) : bits .or .u64 (h / 4294967296) 1 = (highN h : Int) := by
  rw [u64_or (h / 4294967296) 1 (by omega) (by omega) (by omega) (by omega)]
  unfold highN
  have e : (h / 4294967296).toNat = h.toNat / 4294967296 := by omega
  rw [e]
  rfl

theorem mul_le {i hi : Nat} (h1 : i ≤ 7) (h2 : hi ≤ 4294967295) : i * hi ≤ 30064771065 := by
  have := Nat.mul_le_mul h1 h2
  omega

theorem wrap_mul {i hi : Nat} (h1 : i ≤ 7) (h2 : hi ≤ 4294967295) : IntKind.u64.wrap ((i : Int) * (hi : Int)) = ((i * hi : Nat) : Int) := by
  have := mul_le h1 h2
  rw [wrap64, ← Int.natCast_mul]
  omega
theorem wrap_add {a b : Nat} (h1 : a ≤ 4294967295) (h2 : b ≤ 30064771065) : IntKind.u64.wrap ((a : Int) + (b : Int)) = ((a + b : Nat) : Int) := by
  rw [wrap64]
  omega

theorem places_any (l : List Int) (hx : OctL l) (hm : l.length ≤ 140737488355328) (k : Int) (a : Option Addr) (n c : Nat) (w : World) :
    Calls Try.prog 28 #[.agg #[.int .i64 k, .slice a n c], .string (strOfNums l)] w fun e w' => e = .returned (.func (.func 33) #[] #[.pointer (some ⟨w.heap.size, 0, none⟩), .pointer (some ⟨w.heap.size + 1, 0, none⟩), .pointer (some ⟨w.heap.size + 2, 0, none⟩)]) ∧
      w' = ((w.alloc (.cells #[.int .i64 k, .slice a n c] 27)).alloc (.cells #[.int .u64 (lowN (hashL l))] 38)).alloc (.cells #[.int .u64 (highN (hashL l))] 38) := by
  obtain ⟨z0, z1⟩ := hash_u64 l
  have HC : Hid (∀ w : World, Calls Try.prog 15 #[.string (strOfNums l)] w fun e w' => e = .returned (.int .u64 (hashL l)) ∧ w' = w) := fun w => hash_any l hx hm w
  generalize hashL l = h at *
  have e1 := low_eq z0 z1
  have e2 := high_eq z0 z1
  generalize lowN h = lo at *
  generalize highN h = hi at *
  go_enter Try.func28, Try.ntmps28
  go_wp2_with fail
  refine (HC.out _).mono ?_
  rintro e w1 ⟨rfl, rfl⟩
  go_wp2
  go_ret
  exact ⟨rfl, rfl⟩

set_option maxHeartbeats 400000 in
theorem place_any (l : List Int) (hx : OctL l) (hm : l.length ≤ 140737488355328) (i : Nat) (hi : i ≤ 7) (n : Nat) (hn : 1 ≤ n) (hn2 : n ≤ 8192) (w : World) :
    Calls Try.prog 29 #[.string (strOfNums l), .int .i64 i, .int .i64 (8 * (n : Int))] w fun e w' => e = .returned (.int .i64 (plc (hashL l) i n)) ∧ w' = w := by
  obtain ⟨z0, z1⟩ := hash_u64 l
  have HC : Hid (∀ w : World, Calls Try.prog 16 #[.string (strOfNums l)] w fun e w' => e = .returned (.int .u64 (hashL l)) ∧ w' = w) := fun w => refHash_any l hx hm w
  generalize hashL l = h at *
  have e1 := low_eq z0 z1
  have e2 := high_eq z0 z1
  have b1 := lowN_lt h
  have b2 := highN_lt z1
  have HP : Hid (plc h i n = (lowN h + i * highN h) % (8 * n)) := rfl
  generalize plc h i n = p at *
  generalize lowN h = lo at *
  generalize highN h = hg at *
  have e3 := wrap_mul hi b2
  have b3 := mul_le hi b2
  generalize i * hg = m at *
  have e4 := wrap_add b1 b3
  have b4 : lo + m ≤ 34359738360 := by omega
  generalize lo + m = s at *
  have b5 : p < 8 * n := by rw [HP.out]; exact Nat.mod_lt _ (by omega)
  have e5 : Int.tmod (s : Int) (8 * (n : Int)) = (p : Int) := by
    rw [HP.out]
    rw [Int.tmod_eq_emod_of_nonneg (by omega), Int.natCast_emod, Int.natCast_mul]
    rfl
  go_enter Try.func29, Try.ntmps29
  go_wp2_with fail
  refine (HC.out _).mono ?_
  rintro e w1 ⟨rfl, rfl⟩
  go_wp2
  go_ret
  exact ⟨rfl, rfl⟩
end Go.Proofs.Ytbhlphhgibikeaa
