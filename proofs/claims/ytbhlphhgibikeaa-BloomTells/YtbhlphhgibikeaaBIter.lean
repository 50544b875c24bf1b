/- The function that hands out a key's places: it calls yield with each of them, in order, until it is told to stop. -/
import Derived.RangeFuncNested
import Derived.RangeFuncBound
import Derived.RangeFuncCalls
import Derived.RangeFuncLeaves
import Derived.Shelf.Abstract
import Derived.Shelf.RegionOpen
import Derived.OwnWalkIn
import Derived.TacticsInMore
import Derived.LoopNIn
import Derived.LoopIn
import Derived.Test.YtbhlphhgibikeaaBMay
namespace Go.Proofs.Ytbhlphhgibikeaa
open Go.RowKit Go.Shelf
set_option linter.unusedVariables false
attribute [local go_sem] Oper.semAt_some

/-- A place's bit in its octet. -/
def bitN (p : Nat) : Nat := 2 ^ (p % 8)

theorem bit_le (p : Nat) : bitN p ≤ 128 := by
  unfold bitN
  have h : p % 8 < 8 := Nat.mod_lt _ (by decide)
  generalize p % 8 = j at *
  have : ∀ j, j < 8 → 2 ^ j ≤ 128 := by decide
  exact this j h
theorem bit_eq (p : Nat) : ((bitN p : Nat) : Int) = 2 ^ (p % 8) % 256 := by
  have h := bit_le p
  have e : ((bitN p : Nat) : Int) = (2 : Int) ^ (p % 8) := by unfold bitN; rw [Int.natCast_pow]; rfl
  rw [← e]
  generalize bitN p = x at *
  omega

set_option maxHeartbeats 2000000 in
theorem iter_in (m l Bf : Nat) (K : Nat) (hK8 : K ≤ 8) (h : Int) (h0 : 0 ≤ h) (h1 : h ≤ 18446744073709551615) (a : Option Addr) (n c : Nat) (hn : 1 ≤ n) (hn2 : n ≤ 8192) (J : Nat → World → Prop) (D : World → Prop) (W : World)
    (hY : ∀ (i : Nat) (W0 : World), i < K → J i W0 → YieldAt Fence.wide (m - 1) Try.prog l #[.int .i64 ((plc h i n / 8 : Nat) : Int), .int .u8 ((bitN (plc h i n) : Nat) : Int)] W0 fun e W' => (e = .returned (.bool true) ∧ J (i + 1) W') ∨ (e = .returned (.bool false) ∧ D W'))
    (hK : ∀ i W', J i W' → W'.cell? ⟨Bf, 0, none⟩ = some (.int .i64 K) ∧ W'.cell? ⟨Bf, 1, none⟩ = some (.slice a n c) ∧ W'.cell? ⟨Bf + 1, 0, none⟩ = some (.int .u64 (lowN h)) ∧ W'.cell? ⟨Bf + 2, 0, none⟩ = some (.int .u64 (highN h)))
    (hJ : J 0 W) :
    CallsIn Fence.wide m Try.prog 33 #[.func (.yield l) #[] #[], .pointer (some ⟨Bf, 0, none⟩), .pointer (some ⟨Bf + 1, 0, none⟩), .pointer (some ⟨Bf + 2, 0, none⟩)] W fun e W' => (∃ v, e = .returned v) ∧ (J K W' ∨ D W') := by
  refine callsIn_of_wp Try.func33 rfl trivial ?_ rfl
  simp only [Try.ntmps33, List.size_toArray, List.length_cons, List.length_nil, Nat.reduceAdd, Nat.reduceSub, Array.replicate_succ, Array.replicate_zero, List.push_toArray, List.append_toArray, List.nil_append, List.cons_append]
  obtain ⟨k0, k1, k2, k3⟩ := hK 0 W hJ
  gi_wp2
  gi_loopw [9] (fun p wr => ∃ (i : Nat), p = .int .i64 (i : Int) ∧ i ≤ K ∧ Hid (J i wr)) (fun p wr => K - (intOf p).toNat)
  case atStart => exact ⟨0, rfl, Nat.zero_le _, hJ⟩
  case round =>
    obtain ⟨i, rfl, hi, hj⟩ := hrel
    clear k0 k1 k2 k3
    obtain ⟨k0, k1, k2, k3⟩ := hK i wr hj.out
    by_cases hlt : i < K
    · have hlt' : (i : Int) < (K : Int) := by omega
      have hi7 : i ≤ 7 := by omega
      have Y : Hid (YieldAt Fence.wide (m - 1) Try.prog l #[.int .i64 ((plc h i n / 8 : Nat) : Int), .int .u8 ((bitN (plc h i n) : Nat) : Int)] wr fun e W' => (e = .returned (.bool true) ∧ J (i + 1) W') ∨ (e = .returned (.bool false) ∧ D W')) := hY i wr hlt hj.out
      clear hY hK
      have b1 := lowN_lt h
      have b2 := highN_lt h1
      have HP : Hid (plc h i n = (lowN h + i * highN h) % (8 * n)) := rfl
      generalize plc h i n = p at *
      generalize lowN h = lo at *
      generalize highN h = hg at *
      have e3 := wrap_mul hi7 b2
      have b3 := mul_le hi7 b2
      generalize i * hg = q at *
      have e4 := wrap_add b1 b3
      have b4 : lo + q ≤ 34359738360 := by omega
      generalize lo + q = s at *
      have b5 : p < 8 * n := by rw [HP.out]; exact Nat.mod_lt _ (by omega)
      have e5 : Int.tmod (s : Int) ((n : Int) * 8) = (p : Int) := by
        rw [HP.out]
        rw [Int.tmod_eq_emod_of_nonneg (by omega), Int.natCast_emod, Int.natCast_mul, Int.mul_comm]
        rfl
      have hb : ((bitN p : Nat) : Int) = 2 ^ (p % 8) % 256 := bit_eq p
      have hd : ((p / 8 : Nat) : Int) = (p : Int) / 8 := by omega
      rw [hb, hd] at Y
      clear hb hd
      obtain ⟨fn, tmps, asg, bod, hy, hR⟩ := Y.out
      clear Y
      gi_wp2
      refine ⟨fun h => (by cases h), hR.mono ?_⟩
      rintro e W3 (⟨rfl, hJ3⟩ | ⟨rfl, hD3⟩)
      · have HJ3 : Hid (J (i + 1) W3) := hJ3
        clear hJ3
        gi_wp2
        exact ⟨⟨i + 1, by simp, by omega, HJ3⟩, by simp [intOf]; omega⟩
      · have HD3 : Hid (D W3) := hD3
        clear hD3
        gi_wp2
        refine bodyPost_ret (results_none rfl _ _ _) rfl ?_
        exact ⟨⟨_, rfl⟩, .inr HD3.out⟩
    · have hlt' : ¬ (i : Int) < (K : Int) := by omega
      obtain rfl : i = K := by omega
      clear hY hK
      gi_wp2
      go_end0
      exact ⟨⟨_, rfl⟩, .inl hj.out⟩
end Go.Proofs.Ytbhlphhgibikeaa
