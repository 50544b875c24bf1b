
import Derived.Test.YtnchjlimkgbfpaaGreatDoorVRef
namespace Go.Proofs.YtnchjlimkgbfpaaGreatDoor
open Go.RowKit
set_option linter.unusedVariables false
set_option maxRecDepth 20000
theorem and_mask_table : ∀ k : Fin 8, ∀ f : Fin 256, f.val % 2 ^ k.val = (f.val &&& (2 ^ k.val - 1)) := by decide +kernel
theorem and_mask (k : Nat) (f m y : Int) (hk : k < 8) (h0 : 0 ≤ f) (h1 : f ≤ 255) (hm : m = ((2 ^ k - 1 : Nat) : Int)) (hm2 : m ≤ 255) (hy : (((f.toNat % 2 ^ k : Nat)) : Int) = y) : bits .and .u64 f m = y := by
  obtain ⟨F, rfl⟩ := Int.eq_ofNat_of_zero_le h0
  subst hm
  rw [bits_and_u64_nat _ _ (by omega) (by omega)]
  have h := and_mask_table ⟨k, hk⟩ ⟨F, by omega⟩
  have h' : F % 2 ^ k = F &&& (2 ^ k - 1) := h
  rw [← h', ← hy]
  rfl
theorem ones_any (c k : Int) (w : World) (h0 : 0 ≤ c) (h1 : c ≤ 255) (ht : toldOf c = k) :
    Calls Tryz.prog 139 #[.int .u8 c] w fun e w' => e = .returned (.int .i64 (k - 1)) ∧ w' = w := by
  subst ht
  rcases told_cases c h0 h1 with ⟨ht, hlo, hhi⟩ | ⟨ht, hlo, hhi⟩ | ⟨ht, hlo, hhi⟩ | ⟨ht, hlo, hhi⟩ | ⟨ht, hlo, hhi⟩ | ⟨ht, hlo, hhi⟩ | ⟨ht, hlo, hhi⟩ | ⟨ht, hlo, hhi⟩ | ⟨ht, hlo, hhi⟩
  · rw [ht]; exact ones1 c w hlo hhi
  · rw [ht]; exact ones2 c w hlo hhi
  · rw [ht]; exact ones3 c w hlo hhi
  · rw [ht]; exact ones4 c w hlo hhi
  · rw [ht]; exact ones5 c w hlo hhi
  · rw [ht]; exact ones6 c w hlo hhi
  · rw [ht]; exact ones7 c w hlo hhi
  · rw [ht]; exact ones8 c w hlo hhi
  · rw [ht]; exact ones9 c w hlo hhi
theorem refGet_empty (a : Option Addr) (cap : Nat) (w : World) :
    Calls Tryz.prog 98 #[.slice a 0 cap] w fun e w' => e = .returned (.tuple #[.int .u64 0, .int .i64 0, .int .i64 8]) ∧ ∃ d, w' = w.drewN d := by
  go_enter Tryz.func98, Tryz.ntmps98
  go_wp2
  go_ret3
  exact ⟨rfl, 0, rfl⟩
theorem refGet_short (f k : Int) (b off len cap : Nat) (w : World) (hlen : 0 < len) (hcap : len ≤ cap) (hm : cap ≤ maxLen) (hf0 : 0 ≤ f) (hf1 : f ≤ 255) (ht : toldOf f = k) (hk : (len : Int) < k) (hk9 : k ≤ 9)
    (c0 : w.cell? ⟨b, off, none⟩ = some (.int .u8 f)) :
    Calls Tryz.prog 98 #[.slice (some ⟨b, off, none⟩) len cap] w fun e w' => e = .returned (.tuple #[.int .u64 0, .int .i64 0, .int .i64 8]) ∧ ∃ d, w' = w.drewN d := by
  have H : Hid (toldOf f = k) := ht
  clear ht
  unfold maxLen at hm
  have hne : ((len : Int) == 0) = false := by simp; omega
  have hk' : (len : Int) < k - 1 + 1 := by omega
  go_enter Tryz.func98, Tryz.ntmps98
  go_wp2_with fail
  refine (ones_any f k _ hf0 hf1 H.out).mono ?_
  rintro e w' ⟨rfl, rfl⟩
  go_wp2
  go_ret3
  exact ⟨rfl, 0, rfl⟩
set_option maxHeartbeats 1000000 in
theorem refGet1 (f : Int)  (b off len cap : Nat) (w : World) (hlen : 1 ≤ len) (hcap : len ≤ cap) (hm : cap ≤ maxLen) (hf0 : 0 ≤ f) (hf1 : f ≤ 255) (ht : toldOf f = 1) (hlo : 0 ≤ f) (hhi : f ≤ 127)
     (c0 : w.cell? ⟨b, off, none⟩ = some (.int .u8 f))  :
    Calls Tryz.prog 98 #[.slice (some ⟨b, off, none⟩) len cap] w fun e w' => GetEnd (f) 1 e ∧ ∃ d, w' = w.drewN d := by
  have H : Hid (toldOf f = 1) := ht
  have hmask : bits .and .u64 f 127 = f := and_mask 7 f _ _ (by decide) hf0 hf1 (by decide) (by decide) (by show (((f.toNat % 128 : Nat)) : Int) = _; omega)
  clear ht
  unfold maxLen at hm
  have hne : ((len : Int) == 0) = false := by simp; omega
  have hge : ¬ (len : Int) < 1 := by omega
  by_cases hs : sizeOf (f) < 1
  all_goals
    go_enter Tryz.func98, Tryz.ntmps98
    go_wp2_with fail
    refine (ones1 f _ hlo hhi).mono ?_
    rintro e w' ⟨rfl, rfl⟩
    go_wp2_with fail
    go_quiet (fail)
    go_wp2_with fail
    refine wp_loop_rounds 1 ?_
    rw [rounds_succ]
    go_wp2_with fail
    refine (refSize_any (f) _ (by omega) (by omega)).mono ?_
    rintro e w2 ⟨rfl, rfl⟩
    go_wp2
    go_ret3
  · exact ⟨GetEnd.bad hs, _, rfl⟩
  · exact ⟨GetEnd.good (by omega), _, rfl⟩
set_option maxHeartbeats 1000000 in
theorem refGet2 (f : Int) (x1 : Int) (b off len cap : Nat) (w : World) (hlen : 2 ≤ len) (hcap : len ≤ cap) (hm : cap ≤ maxLen) (hf0 : 0 ≤ f) (hf1 : f ≤ 255) (ht : toldOf f = 2) (hlo : 128 ≤ f) (hhi : f ≤ 191)
    (p1 : 0 ≤ x1) (q1 : x1 ≤ 255) (c0 : w.cell? ⟨b, off, none⟩ = some (.int .u8 f)) (c1 : w.cell? ⟨b, off + 1, none⟩ = some (.int .u8 x1)) :
    Calls Tryz.prog 98 #[.slice (some ⟨b, off, none⟩) len cap] w fun e w' => GetEnd ((f - 128) * 256 + x1) 2 e ∧ ∃ d, w' = w.drewN d := by
  have H : Hid (toldOf f = 2) := ht
  have hmask : bits .and .u64 f 63 = f - 128 := and_mask 6 f _ _ (by decide) hf0 hf1 (by decide) (by decide) (by show (((f.toNat % 64 : Nat)) : Int) = _; omega)
  clear ht
  unfold maxLen at hm
  have hne : ((len : Int) == 0) = false := by simp; omega
  have hge : ¬ (len : Int) < 2 := by omega
  have hi1 : (1 : Int) < (len : Int) := by omega
  have o1 : bits .or .u64 ((f - 128) * 256) x1 = (f - 128) * 256 + x1 := or_join _ _ (by omega) (by omega) p1 q1
  by_cases hs : sizeOf ((f - 128) * 256 + x1) < 2
  all_goals
    go_enter Tryz.func98, Tryz.ntmps98
    go_wp2_with fail
    refine (ones2 f _ hlo hhi).mono ?_
    rintro e w' ⟨rfl, rfl⟩
    go_wp2_with fail
    go_quiet (fail)
    go_wp2_with fail
    refine wp_loop_rounds 2 ?_
    rw [rounds_succ]
    go_wp2
    rw [rounds_succ]
    go_wp2_with fail
    refine (refSize_any ((f - 128) * 256 + x1) _ (by omega) (by omega)).mono ?_
    rintro e w2 ⟨rfl, rfl⟩
    go_wp2
    go_ret3
  · exact ⟨GetEnd.bad hs, _, rfl⟩
  · exact ⟨GetEnd.good (by omega), _, rfl⟩
set_option maxHeartbeats 1000000 in
theorem refGet3 (f : Int) (x1 x2 : Int) (b off len cap : Nat) (w : World) (hlen : 3 ≤ len) (hcap : len ≤ cap) (hm : cap ≤ maxLen) (hf0 : 0 ≤ f) (hf1 : f ≤ 255) (ht : toldOf f = 3) (hlo : 192 ≤ f) (hhi : f ≤ 223)
    (p1 : 0 ≤ x1) (q1 : x1 ≤ 255) (p2 : 0 ≤ x2) (q2 : x2 ≤ 255) (c0 : w.cell? ⟨b, off, none⟩ = some (.int .u8 f)) (c1 : w.cell? ⟨b, off + 1, none⟩ = some (.int .u8 x1)) (c2 : w.cell? ⟨b, off + 2, none⟩ = some (.int .u8 x2)) :
    Calls Tryz.prog 98 #[.slice (some ⟨b, off, none⟩) len cap] w fun e w' => GetEnd (((f - 192) * 256 + x1) * 256 + x2) 3 e ∧ ∃ d, w' = w.drewN d := by
  have H : Hid (toldOf f = 3) := ht
  have hmask : bits .and .u64 f 31 = f - 192 := and_mask 5 f _ _ (by decide) hf0 hf1 (by decide) (by decide) (by show (((f.toNat % 32 : Nat)) : Int) = _; omega)
  clear ht
  unfold maxLen at hm
  have hne : ((len : Int) == 0) = false := by simp; omega
  have hge : ¬ (len : Int) < 3 := by omega
  have hi1 : (1 : Int) < (len : Int) := by omega
  have hi2 : (2 : Int) < (len : Int) := by omega
  have o1 : bits .or .u64 ((f - 192) * 256) x1 = (f - 192) * 256 + x1 := or_join _ _ (by omega) (by omega) p1 q1
  have o2 : bits .or .u64 (((f - 192) * 256 + x1) * 256) x2 = ((f - 192) * 256 + x1) * 256 + x2 := or_join _ _ (by omega) (by omega) p2 q2
  by_cases hs : sizeOf (((f - 192) * 256 + x1) * 256 + x2) < 3
  all_goals
    go_enter Tryz.func98, Tryz.ntmps98
    go_wp2_with fail
    refine (ones3 f _ hlo hhi).mono ?_
    rintro e w' ⟨rfl, rfl⟩
    go_wp2_with fail
    go_quiet (fail)
    go_wp2_with fail
    refine wp_loop_rounds 3 ?_
    rw [rounds_succ]
    go_wp2
    rw [rounds_succ]
    go_wp2
    rw [rounds_succ]
    go_wp2_with fail
    refine (refSize_any (((f - 192) * 256 + x1) * 256 + x2) _ (by omega) (by omega)).mono ?_
    rintro e w2 ⟨rfl, rfl⟩
    go_wp2
    go_ret3
  · exact ⟨GetEnd.bad hs, _, rfl⟩
  · exact ⟨GetEnd.good (by omega), _, rfl⟩
set_option maxHeartbeats 1000000 in
theorem refGet4 (f : Int) (x1 x2 x3 : Int) (b off len cap : Nat) (w : World) (hlen : 4 ≤ len) (hcap : len ≤ cap) (hm : cap ≤ maxLen) (hf0 : 0 ≤ f) (hf1 : f ≤ 255) (ht : toldOf f = 4) (hlo : 224 ≤ f) (hhi : f ≤ 239)
    (p1 : 0 ≤ x1) (q1 : x1 ≤ 255) (p2 : 0 ≤ x2) (q2 : x2 ≤ 255) (p3 : 0 ≤ x3) (q3 : x3 ≤ 255) (c0 : w.cell? ⟨b, off, none⟩ = some (.int .u8 f)) (c1 : w.cell? ⟨b, off + 1, none⟩ = some (.int .u8 x1)) (c2 : w.cell? ⟨b, off + 2, none⟩ = some (.int .u8 x2)) (c3 : w.cell? ⟨b, off + 3, none⟩ = some (.int .u8 x3)) :
    Calls Tryz.prog 98 #[.slice (some ⟨b, off, none⟩) len cap] w fun e w' => GetEnd ((((f - 224) * 256 + x1) * 256 + x2) * 256 + x3) 4 e ∧ ∃ d, w' = w.drewN d := by
  have H : Hid (toldOf f = 4) := ht
  have hmask : bits .and .u64 f 15 = f - 224 := and_mask 4 f _ _ (by decide) hf0 hf1 (by decide) (by decide) (by show (((f.toNat % 16 : Nat)) : Int) = _; omega)
  clear ht
  unfold maxLen at hm
  have hne : ((len : Int) == 0) = false := by simp; omega
  have hge : ¬ (len : Int) < 4 := by omega
  have hi1 : (1 : Int) < (len : Int) := by omega
  have hi2 : (2 : Int) < (len : Int) := by omega
  have hi3 : (3 : Int) < (len : Int) := by omega
  have o1 : bits .or .u64 ((f - 224) * 256) x1 = (f - 224) * 256 + x1 := or_join _ _ (by omega) (by omega) p1 q1
  have o2 : bits .or .u64 (((f - 224) * 256 + x1) * 256) x2 = ((f - 224) * 256 + x1) * 256 + x2 := or_join _ _ (by omega) (by omega) p2 q2
  have o3 : bits .or .u64 ((((f - 224) * 256 + x1) * 256 + x2) * 256) x3 = (((f - 224) * 256 + x1) * 256 + x2) * 256 + x3 := or_join _ _ (by omega) (by omega) p3 q3
  by_cases hs : sizeOf ((((f - 224) * 256 + x1) * 256 + x2) * 256 + x3) < 4
  all_goals
    go_enter Tryz.func98, Tryz.ntmps98
    go_wp2_with fail
    refine (ones4 f _ hlo hhi).mono ?_
    rintro e w' ⟨rfl, rfl⟩
    go_wp2_with fail
    go_quiet (fail)
    go_wp2_with fail
    refine wp_loop_rounds 4 ?_
    rw [rounds_succ]
    go_wp2
    rw [rounds_succ]
    go_wp2
    rw [rounds_succ]
    go_wp2
    rw [rounds_succ]
    go_wp2_with fail
    refine (refSize_any ((((f - 224) * 256 + x1) * 256 + x2) * 256 + x3) _ (by omega) (by omega)).mono ?_
    rintro e w2 ⟨rfl, rfl⟩
    go_wp2
    go_ret3
  · exact ⟨GetEnd.bad hs, _, rfl⟩
  · exact ⟨GetEnd.good (by omega), _, rfl⟩
set_option maxHeartbeats 1000000 in
theorem refGet5 (f : Int) (x1 x2 x3 x4 : Int) (b off len cap : Nat) (w : World) (hlen : 5 ≤ len) (hcap : len ≤ cap) (hm : cap ≤ maxLen) (hf0 : 0 ≤ f) (hf1 : f ≤ 255) (ht : toldOf f = 5) (hlo : 240 ≤ f) (hhi : f ≤ 247)
    (p1 : 0 ≤ x1) (q1 : x1 ≤ 255) (p2 : 0 ≤ x2) (q2 : x2 ≤ 255) (p3 : 0 ≤ x3) (q3 : x3 ≤ 255) (p4 : 0 ≤ x4) (q4 : x4 ≤ 255) (c0 : w.cell? ⟨b, off, none⟩ = some (.int .u8 f)) (c1 : w.cell? ⟨b, off + 1, none⟩ = some (.int .u8 x1)) (c2 : w.cell? ⟨b, off + 2, none⟩ = some (.int .u8 x2)) (c3 : w.cell? ⟨b, off + 3, none⟩ = some (.int .u8 x3)) (c4 : w.cell? ⟨b, off + 4, none⟩ = some (.int .u8 x4)) :
    Calls Tryz.prog 98 #[.slice (some ⟨b, off, none⟩) len cap] w fun e w' => GetEnd (((((f - 240) * 256 + x1) * 256 + x2) * 256 + x3) * 256 + x4) 5 e ∧ ∃ d, w' = w.drewN d := by
  have H : Hid (toldOf f = 5) := ht
  have hmask : bits .and .u64 f 7 = f - 240 := and_mask 3 f _ _ (by decide) hf0 hf1 (by decide) (by decide) (by show (((f.toNat % 8 : Nat)) : Int) = _; omega)
  clear ht
  unfold maxLen at hm
  have hne : ((len : Int) == 0) = false := by simp; omega
  have hge : ¬ (len : Int) < 5 := by omega
  have hi1 : (1 : Int) < (len : Int) := by omega
  have hi2 : (2 : Int) < (len : Int) := by omega
  have hi3 : (3 : Int) < (len : Int) := by omega
  have hi4 : (4 : Int) < (len : Int) := by omega
  have o1 : bits .or .u64 ((f - 240) * 256) x1 = (f - 240) * 256 + x1 := or_join _ _ (by omega) (by omega) p1 q1
  have o2 : bits .or .u64 (((f - 240) * 256 + x1) * 256) x2 = ((f - 240) * 256 + x1) * 256 + x2 := or_join _ _ (by omega) (by omega) p2 q2
  have o3 : bits .or .u64 ((((f - 240) * 256 + x1) * 256 + x2) * 256) x3 = (((f - 240) * 256 + x1) * 256 + x2) * 256 + x3 := or_join _ _ (by omega) (by omega) p3 q3
  have o4 : bits .or .u64 (((((f - 240) * 256 + x1) * 256 + x2) * 256 + x3) * 256) x4 = ((((f - 240) * 256 + x1) * 256 + x2) * 256 + x3) * 256 + x4 := or_join _ _ (by omega) (by omega) p4 q4
  by_cases hs : sizeOf (((((f - 240) * 256 + x1) * 256 + x2) * 256 + x3) * 256 + x4) < 5
  all_goals
    go_enter Tryz.func98, Tryz.ntmps98
    go_wp2_with fail
    refine (ones5 f _ hlo hhi).mono ?_
    rintro e w' ⟨rfl, rfl⟩
    go_wp2_with fail
    go_quiet (fail)
    go_wp2_with fail
    refine wp_loop_rounds 5 ?_
    rw [rounds_succ]
    go_wp2
    rw [rounds_succ]
    go_wp2
    rw [rounds_succ]
    go_wp2
    rw [rounds_succ]
    go_wp2
    rw [rounds_succ]
    go_wp2_with fail
    refine (refSize_any (((((f - 240) * 256 + x1) * 256 + x2) * 256 + x3) * 256 + x4) _ (by omega) (by omega)).mono ?_
    rintro e w2 ⟨rfl, rfl⟩
    go_wp2
    go_ret3
  · exact ⟨GetEnd.bad hs, _, rfl⟩
  · exact ⟨GetEnd.good (by omega), _, rfl⟩
set_option maxHeartbeats 1000000 in
theorem refGet6 (f : Int) (x1 x2 x3 x4 x5 : Int) (b off len cap : Nat) (w : World) (hlen : 6 ≤ len) (hcap : len ≤ cap) (hm : cap ≤ maxLen) (hf0 : 0 ≤ f) (hf1 : f ≤ 255) (ht : toldOf f = 6) (hlo : 248 ≤ f) (hhi : f ≤ 251)
    (p1 : 0 ≤ x1) (q1 : x1 ≤ 255) (p2 : 0 ≤ x2) (q2 : x2 ≤ 255) (p3 : 0 ≤ x3) (q3 : x3 ≤ 255) (p4 : 0 ≤ x4) (q4 : x4 ≤ 255) (p5 : 0 ≤ x5) (q5 : x5 ≤ 255) (c0 : w.cell? ⟨b, off, none⟩ = some (.int .u8 f)) (c1 : w.cell? ⟨b, off + 1, none⟩ = some (.int .u8 x1)) (c2 : w.cell? ⟨b, off + 2, none⟩ = some (.int .u8 x2)) (c3 : w.cell? ⟨b, off + 3, none⟩ = some (.int .u8 x3)) (c4 : w.cell? ⟨b, off + 4, none⟩ = some (.int .u8 x4)) (c5 : w.cell? ⟨b, off + 5, none⟩ = some (.int .u8 x5)) :
    Calls Tryz.prog 98 #[.slice (some ⟨b, off, none⟩) len cap] w fun e w' => GetEnd ((((((f - 248) * 256 + x1) * 256 + x2) * 256 + x3) * 256 + x4) * 256 + x5) 6 e ∧ ∃ d, w' = w.drewN d := by
  have H : Hid (toldOf f = 6) := ht
  have hmask : bits .and .u64 f 3 = f - 248 := and_mask 2 f _ _ (by decide) hf0 hf1 (by decide) (by decide) (by show (((f.toNat % 4 : Nat)) : Int) = _; omega)
  clear ht
  unfold maxLen at hm
  have hne : ((len : Int) == 0) = false := by simp; omega
  have hge : ¬ (len : Int) < 6 := by omega
  have hi1 : (1 : Int) < (len : Int) := by omega
  have hi2 : (2 : Int) < (len : Int) := by omega
  have hi3 : (3 : Int) < (len : Int) := by omega
  have hi4 : (4 : Int) < (len : Int) := by omega
  have hi5 : (5 : Int) < (len : Int) := by omega
  have o1 : bits .or .u64 ((f - 248) * 256) x1 = (f - 248) * 256 + x1 := or_join _ _ (by omega) (by omega) p1 q1
  have o2 : bits .or .u64 (((f - 248) * 256 + x1) * 256) x2 = ((f - 248) * 256 + x1) * 256 + x2 := or_join _ _ (by omega) (by omega) p2 q2
  have o3 : bits .or .u64 ((((f - 248) * 256 + x1) * 256 + x2) * 256) x3 = (((f - 248) * 256 + x1) * 256 + x2) * 256 + x3 := or_join _ _ (by omega) (by omega) p3 q3
  have o4 : bits .or .u64 (((((f - 248) * 256 + x1) * 256 + x2) * 256 + x3) * 256) x4 = ((((f - 248) * 256 + x1) * 256 + x2) * 256 + x3) * 256 + x4 := or_join _ _ (by omega) (by omega) p4 q4
  have o5 : bits .or .u64 ((((((f - 248) * 256 + x1) * 256 + x2) * 256 + x3) * 256 + x4) * 256) x5 = (((((f - 248) * 256 + x1) * 256 + x2) * 256 + x3) * 256 + x4) * 256 + x5 := or_join _ _ (by omega) (by omega) p5 q5
  by_cases hs : sizeOf ((((((f - 248) * 256 + x1) * 256 + x2) * 256 + x3) * 256 + x4) * 256 + x5) < 6
  all_goals
    go_enter Tryz.func98, Tryz.ntmps98
    go_wp2_with fail
    refine (ones6 f _ hlo hhi).mono ?_
    rintro e w' ⟨rfl, rfl⟩
    go_wp2_with fail
    go_quiet (fail)
    go_wp2_with fail
    refine wp_loop_rounds 6 ?_
    rw [rounds_succ]
    go_wp2
    rw [rounds_succ]
    go_wp2
    rw [rounds_succ]
    go_wp2
    rw [rounds_succ]
    go_wp2
    rw [rounds_succ]
    go_wp2
    rw [rounds_succ]
    go_wp2_with fail
    refine (refSize_any ((((((f - 248) * 256 + x1) * 256 + x2) * 256 + x3) * 256 + x4) * 256 + x5) _ (by omega) (by omega)).mono ?_
    rintro e w2 ⟨rfl, rfl⟩
    go_wp2
    go_ret3
  · exact ⟨GetEnd.bad hs, _, rfl⟩
  · exact ⟨GetEnd.good (by omega), _, rfl⟩
set_option maxHeartbeats 1000000 in
theorem refGet7 (f : Int) (x1 x2 x3 x4 x5 x6 : Int) (b off len cap : Nat) (w : World) (hlen : 7 ≤ len) (hcap : len ≤ cap) (hm : cap ≤ maxLen) (hf0 : 0 ≤ f) (hf1 : f ≤ 255) (ht : toldOf f = 7) (hlo : 252 ≤ f) (hhi : f ≤ 253)
    (p1 : 0 ≤ x1) (q1 : x1 ≤ 255) (p2 : 0 ≤ x2) (q2 : x2 ≤ 255) (p3 : 0 ≤ x3) (q3 : x3 ≤ 255) (p4 : 0 ≤ x4) (q4 : x4 ≤ 255) (p5 : 0 ≤ x5) (q5 : x5 ≤ 255) (p6 : 0 ≤ x6) (q6 : x6 ≤ 255) (c0 : w.cell? ⟨b, off, none⟩ = some (.int .u8 f)) (c1 : w.cell? ⟨b, off + 1, none⟩ = some (.int .u8 x1)) (c2 : w.cell? ⟨b, off + 2, none⟩ = some (.int .u8 x2)) (c3 : w.cell? ⟨b, off + 3, none⟩ = some (.int .u8 x3)) (c4 : w.cell? ⟨b, off + 4, none⟩ = some (.int .u8 x4)) (c5 : w.cell? ⟨b, off + 5, none⟩ = some (.int .u8 x5)) (c6 : w.cell? ⟨b, off + 6, none⟩ = some (.int .u8 x6)) :
    Calls Tryz.prog 98 #[.slice (some ⟨b, off, none⟩) len cap] w fun e w' => GetEnd (((((((f - 252) * 256 + x1) * 256 + x2) * 256 + x3) * 256 + x4) * 256 + x5) * 256 + x6) 7 e ∧ ∃ d, w' = w.drewN d := by
  have H : Hid (toldOf f = 7) := ht
  have hmask : bits .and .u64 f 1 = f - 252 := and_mask 1 f _ _ (by decide) hf0 hf1 (by decide) (by decide) (by show (((f.toNat % 2 : Nat)) : Int) = _; omega)
  clear ht
  unfold maxLen at hm
  have hne : ((len : Int) == 0) = false := by simp; omega
  have hge : ¬ (len : Int) < 7 := by omega
  have hi1 : (1 : Int) < (len : Int) := by omega
  have hi2 : (2 : Int) < (len : Int) := by omega
  have hi3 : (3 : Int) < (len : Int) := by omega
  have hi4 : (4 : Int) < (len : Int) := by omega
  have hi5 : (5 : Int) < (len : Int) := by omega
  have hi6 : (6 : Int) < (len : Int) := by omega
  have o1 : bits .or .u64 ((f - 252) * 256) x1 = (f - 252) * 256 + x1 := or_join _ _ (by omega) (by omega) p1 q1
  have o2 : bits .or .u64 (((f - 252) * 256 + x1) * 256) x2 = ((f - 252) * 256 + x1) * 256 + x2 := or_join _ _ (by omega) (by omega) p2 q2
  have o3 : bits .or .u64 ((((f - 252) * 256 + x1) * 256 + x2) * 256) x3 = (((f - 252) * 256 + x1) * 256 + x2) * 256 + x3 := or_join _ _ (by omega) (by omega) p3 q3
  have o4 : bits .or .u64 (((((f - 252) * 256 + x1) * 256 + x2) * 256 + x3) * 256) x4 = ((((f - 252) * 256 + x1) * 256 + x2) * 256 + x3) * 256 + x4 := or_join _ _ (by omega) (by omega) p4 q4
  have o5 : bits .or .u64 ((((((f - 252) * 256 + x1) * 256 + x2) * 256 + x3) * 256 + x4) * 256) x5 = (((((f - 252) * 256 + x1) * 256 + x2) * 256 + x3) * 256 + x4) * 256 + x5 := or_join _ _ (by omega) (by omega) p5 q5
  have o6 : bits .or .u64 (((((((f - 252) * 256 + x1) * 256 + x2) * 256 + x3) * 256 + x4) * 256 + x5) * 256) x6 = ((((((f - 252) * 256 + x1) * 256 + x2) * 256 + x3) * 256 + x4) * 256 + x5) * 256 + x6 := or_join _ _ (by omega) (by omega) p6 q6
  by_cases hs : sizeOf (((((((f - 252) * 256 + x1) * 256 + x2) * 256 + x3) * 256 + x4) * 256 + x5) * 256 + x6) < 7
  all_goals
    go_enter Tryz.func98, Tryz.ntmps98
    go_wp2_with fail
    refine (ones7 f _ hlo hhi).mono ?_
    rintro e w' ⟨rfl, rfl⟩
    go_wp2_with fail
    go_quiet (fail)
    go_wp2_with fail
    refine wp_loop_rounds 7 ?_
    rw [rounds_succ]
    go_wp2
    rw [rounds_succ]
    go_wp2
    rw [rounds_succ]
    go_wp2
    rw [rounds_succ]
    go_wp2
    rw [rounds_succ]
    go_wp2
    rw [rounds_succ]
    go_wp2
    rw [rounds_succ]
    go_wp2_with fail
    refine (refSize_any (((((((f - 252) * 256 + x1) * 256 + x2) * 256 + x3) * 256 + x4) * 256 + x5) * 256 + x6) _ (by omega) (by omega)).mono ?_
    rintro e w2 ⟨rfl, rfl⟩
    go_wp2
    go_ret3
  · exact ⟨GetEnd.bad hs, _, rfl⟩
  · exact ⟨GetEnd.good (by omega), _, rfl⟩
set_option maxHeartbeats 1000000 in
theorem refGet8 (f : Int) (x1 x2 x3 x4 x5 x6 x7 : Int) (b off len cap : Nat) (w : World) (hlen : 8 ≤ len) (hcap : len ≤ cap) (hm : cap ≤ maxLen) (hf0 : 0 ≤ f) (hf1 : f ≤ 255) (ht : toldOf f = 8) (hlo : 254 ≤ f) (hhi : f ≤ 254)
    (p1 : 0 ≤ x1) (q1 : x1 ≤ 255) (p2 : 0 ≤ x2) (q2 : x2 ≤ 255) (p3 : 0 ≤ x3) (q3 : x3 ≤ 255) (p4 : 0 ≤ x4) (q4 : x4 ≤ 255) (p5 : 0 ≤ x5) (q5 : x5 ≤ 255) (p6 : 0 ≤ x6) (q6 : x6 ≤ 255) (p7 : 0 ≤ x7) (q7 : x7 ≤ 255) (c0 : w.cell? ⟨b, off, none⟩ = some (.int .u8 f)) (c1 : w.cell? ⟨b, off + 1, none⟩ = some (.int .u8 x1)) (c2 : w.cell? ⟨b, off + 2, none⟩ = some (.int .u8 x2)) (c3 : w.cell? ⟨b, off + 3, none⟩ = some (.int .u8 x3)) (c4 : w.cell? ⟨b, off + 4, none⟩ = some (.int .u8 x4)) (c5 : w.cell? ⟨b, off + 5, none⟩ = some (.int .u8 x5)) (c6 : w.cell? ⟨b, off + 6, none⟩ = some (.int .u8 x6)) (c7 : w.cell? ⟨b, off + 7, none⟩ = some (.int .u8 x7)) :
    Calls Tryz.prog 98 #[.slice (some ⟨b, off, none⟩) len cap] w fun e w' => GetEnd ((((((((f - 254) * 256 + x1) * 256 + x2) * 256 + x3) * 256 + x4) * 256 + x5) * 256 + x6) * 256 + x7) 8 e ∧ ∃ d, w' = w.drewN d := by
  have H : Hid (toldOf f = 8) := ht
  clear ht
  unfold maxLen at hm
  have hne : ((len : Int) == 0) = false := by simp; omega
  have hge : ¬ (len : Int) < 8 := by omega
  have hi1 : (1 : Int) < (len : Int) := by omega
  have hi2 : (2 : Int) < (len : Int) := by omega
  have hi3 : (3 : Int) < (len : Int) := by omega
  have hi4 : (4 : Int) < (len : Int) := by omega
  have hi5 : (5 : Int) < (len : Int) := by omega
  have hi6 : (6 : Int) < (len : Int) := by omega
  have hi7 : (7 : Int) < (len : Int) := by omega
  have o1 : bits .or .u64 0 x1 = x1 := by have h := or_join 0 x1 (by omega) (by omega) p1 q1; simpa using h
  have o2 : bits .or .u64 (x1 * 256) x2 = x1 * 256 + x2 := or_join _ _ (by omega) (by omega) p2 q2
  have o3 : bits .or .u64 ((x1 * 256 + x2) * 256) x3 = (x1 * 256 + x2) * 256 + x3 := or_join _ _ (by omega) (by omega) p3 q3
  have o4 : bits .or .u64 (((x1 * 256 + x2) * 256 + x3) * 256) x4 = ((x1 * 256 + x2) * 256 + x3) * 256 + x4 := or_join _ _ (by omega) (by omega) p4 q4
  have o5 : bits .or .u64 ((((x1 * 256 + x2) * 256 + x3) * 256 + x4) * 256) x5 = (((x1 * 256 + x2) * 256 + x3) * 256 + x4) * 256 + x5 := or_join _ _ (by omega) (by omega) p5 q5
  have o6 : bits .or .u64 (((((x1 * 256 + x2) * 256 + x3) * 256 + x4) * 256 + x5) * 256) x6 = ((((x1 * 256 + x2) * 256 + x3) * 256 + x4) * 256 + x5) * 256 + x6 := or_join _ _ (by omega) (by omega) p6 q6
  have o7 : bits .or .u64 ((((((x1 * 256 + x2) * 256 + x3) * 256 + x4) * 256 + x5) * 256 + x6) * 256) x7 = (((((x1 * 256 + x2) * 256 + x3) * 256 + x4) * 256 + x5) * 256 + x6) * 256 + x7 := or_join _ _ (by omega) (by omega) p7 q7
  have HN : Hid ((((((x1 * 256 + x2) * 256 + x3) * 256 + x4) * 256 + x5) * 256 + x6) * 256 + x7 = (((((((f - 254) * 256 + x1) * 256 + x2) * 256 + x3) * 256 + x4) * 256 + x5) * 256 + x6) * 256 + x7) := by unfold Hid; omega
  by_cases hs : sizeOf ((((((x1 * 256 + x2) * 256 + x3) * 256 + x4) * 256 + x5) * 256 + x6) * 256 + x7) < 8
  all_goals
    go_enter Tryz.func98, Tryz.ntmps98
    go_wp2_with fail
    refine (ones8 f _ hlo hhi).mono ?_
    rintro e w' ⟨rfl, rfl⟩
    go_wp2_with fail
    refine wp_loop_rounds 8 ?_
    rw [rounds_succ]
    go_wp2
    rw [rounds_succ]
    go_wp2
    rw [rounds_succ]
    go_wp2
    rw [rounds_succ]
    go_wp2
    rw [rounds_succ]
    go_wp2
    rw [rounds_succ]
    go_wp2
    rw [rounds_succ]
    go_wp2
    rw [rounds_succ]
    go_wp2_with fail
    refine (refSize_any ((((((x1 * 256 + x2) * 256 + x3) * 256 + x4) * 256 + x5) * 256 + x6) * 256 + x7) _ (by omega) (by omega)).mono ?_
    rintro e w2 ⟨rfl, rfl⟩
    go_wp2
    go_ret3
  · rw [HN.out] at hs; exact ⟨GetEnd.bad hs, 0, rfl⟩
  · rw [HN.out] at hs ⊢; exact ⟨GetEnd.good (by omega), 0, rfl⟩
set_option maxHeartbeats 1000000 in
theorem refGet9 (f : Int) (x1 x2 x3 x4 x5 x6 x7 x8 : Int) (b off len cap : Nat) (w : World) (hlen : 9 ≤ len) (hcap : len ≤ cap) (hm : cap ≤ maxLen) (hf0 : 0 ≤ f) (hf1 : f ≤ 255) (ht : toldOf f = 9) (hlo : 255 ≤ f) (hhi : f ≤ 255)
    (p1 : 0 ≤ x1) (q1 : x1 ≤ 255) (p2 : 0 ≤ x2) (q2 : x2 ≤ 255) (p3 : 0 ≤ x3) (q3 : x3 ≤ 255) (p4 : 0 ≤ x4) (q4 : x4 ≤ 255) (p5 : 0 ≤ x5) (q5 : x5 ≤ 255) (p6 : 0 ≤ x6) (q6 : x6 ≤ 255) (p7 : 0 ≤ x7) (q7 : x7 ≤ 255) (p8 : 0 ≤ x8) (q8 : x8 ≤ 255) (c0 : w.cell? ⟨b, off, none⟩ = some (.int .u8 f)) (c1 : w.cell? ⟨b, off + 1, none⟩ = some (.int .u8 x1)) (c2 : w.cell? ⟨b, off + 2, none⟩ = some (.int .u8 x2)) (c3 : w.cell? ⟨b, off + 3, none⟩ = some (.int .u8 x3)) (c4 : w.cell? ⟨b, off + 4, none⟩ = some (.int .u8 x4)) (c5 : w.cell? ⟨b, off + 5, none⟩ = some (.int .u8 x5)) (c6 : w.cell? ⟨b, off + 6, none⟩ = some (.int .u8 x6)) (c7 : w.cell? ⟨b, off + 7, none⟩ = some (.int .u8 x7)) (c8 : w.cell? ⟨b, off + 8, none⟩ = some (.int .u8 x8)) :
    Calls Tryz.prog 98 #[.slice (some ⟨b, off, none⟩) len cap] w fun e w' => GetEnd (((((((((f - 255) * 256 + x1) * 256 + x2) * 256 + x3) * 256 + x4) * 256 + x5) * 256 + x6) * 256 + x7) * 256 + x8) 9 e ∧ ∃ d, w' = w.drewN d := by
  have H : Hid (toldOf f = 9) := ht
  clear ht
  unfold maxLen at hm
  have hne : ((len : Int) == 0) = false := by simp; omega
  have hge : ¬ (len : Int) < 9 := by omega
  have hi1 : (1 : Int) < (len : Int) := by omega
  have hi2 : (2 : Int) < (len : Int) := by omega
  have hi3 : (3 : Int) < (len : Int) := by omega
  have hi4 : (4 : Int) < (len : Int) := by omega
  have hi5 : (5 : Int) < (len : Int) := by omega
  have hi6 : (6 : Int) < (len : Int) := by omega
  have hi7 : (7 : Int) < (len : Int) := by omega
  have hi8 : (8 : Int) < (len : Int) := by omega
  have o1 : bits .or .u64 0 x1 = x1 := by have h := or_join 0 x1 (by omega) (by omega) p1 q1; simpa using h
  have o2 : bits .or .u64 (x1 * 256) x2 = x1 * 256 + x2 := or_join _ _ (by omega) (by omega) p2 q2
  have o3 : bits .or .u64 ((x1 * 256 + x2) * 256) x3 = (x1 * 256 + x2) * 256 + x3 := or_join _ _ (by omega) (by omega) p3 q3
  have o4 : bits .or .u64 (((x1 * 256 + x2) * 256 + x3) * 256) x4 = ((x1 * 256 + x2) * 256 + x3) * 256 + x4 := or_join _ _ (by omega) (by omega) p4 q4
  have o5 : bits .or .u64 ((((x1 * 256 + x2) * 256 + x3) * 256 + x4) * 256) x5 = (((x1 * 256 + x2) * 256 + x3) * 256 + x4) * 256 + x5 := or_join _ _ (by omega) (by omega) p5 q5
  have o6 : bits .or .u64 (((((x1 * 256 + x2) * 256 + x3) * 256 + x4) * 256 + x5) * 256) x6 = ((((x1 * 256 + x2) * 256 + x3) * 256 + x4) * 256 + x5) * 256 + x6 := or_join _ _ (by omega) (by omega) p6 q6
  have o7 : bits .or .u64 ((((((x1 * 256 + x2) * 256 + x3) * 256 + x4) * 256 + x5) * 256 + x6) * 256) x7 = (((((x1 * 256 + x2) * 256 + x3) * 256 + x4) * 256 + x5) * 256 + x6) * 256 + x7 := or_join _ _ (by omega) (by omega) p7 q7
  have o8 : bits .or .u64 (((((((x1 * 256 + x2) * 256 + x3) * 256 + x4) * 256 + x5) * 256 + x6) * 256 + x7) * 256) x8 = ((((((x1 * 256 + x2) * 256 + x3) * 256 + x4) * 256 + x5) * 256 + x6) * 256 + x7) * 256 + x8 := or_join _ _ (by omega) (by omega) p8 q8
  have HN : Hid (((((((x1 * 256 + x2) * 256 + x3) * 256 + x4) * 256 + x5) * 256 + x6) * 256 + x7) * 256 + x8 = ((((((((f - 255) * 256 + x1) * 256 + x2) * 256 + x3) * 256 + x4) * 256 + x5) * 256 + x6) * 256 + x7) * 256 + x8) := by unfold Hid; omega
  by_cases hs : sizeOf (((((((x1 * 256 + x2) * 256 + x3) * 256 + x4) * 256 + x5) * 256 + x6) * 256 + x7) * 256 + x8) < 9
  all_goals
    go_enter Tryz.func98, Tryz.ntmps98
    go_wp2_with fail
    refine (ones9 f _ hlo hhi).mono ?_
    rintro e w' ⟨rfl, rfl⟩
    go_wp2_with fail
    refine wp_loop_rounds 9 ?_
    rw [rounds_succ]
    go_wp2
    rw [rounds_succ]
    go_wp2
    rw [rounds_succ]
    go_wp2
    rw [rounds_succ]
    go_wp2
    rw [rounds_succ]
    go_wp2
    rw [rounds_succ]
    go_wp2
    rw [rounds_succ]
    go_wp2
    rw [rounds_succ]
    go_wp2
    rw [rounds_succ]
    go_wp2_with fail
    refine (refSize_any (((((((x1 * 256 + x2) * 256 + x3) * 256 + x4) * 256 + x5) * 256 + x6) * 256 + x7) * 256 + x8) _ (by omega) (by omega)).mono ?_
    rintro e w2 ⟨rfl, rfl⟩
    go_wp2
    go_ret3
  · rw [HN.out] at hs; exact ⟨GetEnd.bad hs, 0, rfl⟩
  · rw [HN.out] at hs ⊢; exact ⟨GetEnd.good (by omega), 0, rfl⟩
theorem refGet_any (l : List Int) (v : Value) (w : World) (hv : Octs w v l) :
    Calls Tryz.prog 98 #[v] w fun e w' => e = .returned (getRet l) ∧ ∃ d, w' = w.drewN d := by
  obtain ⟨hx, hv⟩ := hv
  rcases hv with ⟨rfl, a, cap, rfl, _⟩ | ⟨hne, b, off, cap, rfl, hcap, hm, hc⟩
  · exact refGet_empty a cap w
  obtain ⟨f, r, rfl⟩ : ∃ f r, l = f :: r := cons_of (List.length_pos_iff.2 hne)
  have hf := hx f (by simp)
  have c0 : w.cell? ⟨b, off, none⟩ = some (.int .u8 f) := hc 0 f rfl
  simp only [List.length_cons] at hcap
  by_cases hsh : ((r.length : Int) + 1) < toldOf f
  · have hk9 : toldOf f ≤ 9 := by unfold toldOf; have := bl_nonneg (255 - f); omega
    rw [getRet_short f r hsh]
    exact refGet_short f (toldOf f) b off (r.length + 1) cap w (by omega) hcap hm hf.1 hf.2 rfl (by omega) hk9 c0
  rcases told_cases f hf.1 hf.2 with ⟨ht, hlo, hhi⟩ | ⟨ht, hlo, hhi⟩ | ⟨ht, hlo, hhi⟩ | ⟨ht, hlo, hhi⟩ | ⟨ht, hlo, hhi⟩ | ⟨ht, hlo, hhi⟩ | ⟨ht, hlo, hhi⟩ | ⟨ht, hlo, hhi⟩ | ⟨ht, hlo, hhi⟩
  · rw [ht] at hsh
    have hN : acc (f - leadOf 1) ((r).take ((1 : Int) - 1).toNat) = f := by rw [show leadOf 1 = 0 by decide +kernel]; simp [acc]
    have hl2 : 1 ≤ (r).length + 1 := by omega
    refine (refGet1 f  b off ((r).length + 1) cap w hl2 hcap hm hf.1 hf.2 ht hlo hhi  c0 ).mono ?_
    rintro e w' ⟨hE, hd⟩
    refine ⟨?_, hd⟩
    rcases hE with ⟨h, rfl⟩ | ⟨h, rfl⟩
    · rw [getRet_bad f (r) 1 _ ht hsh hN h]
    · rw [getRet_good f (r) 1 _ ht hsh hN h]
  · rw [ht] at hsh
    obtain ⟨x1, r1, rfl⟩ : ∃ x t, r = x :: t := cons_of (by omega)
    have hx1 := hx x1 (by simp)
    have c1 : w.cell? ⟨b, off + 1, none⟩ = some (.int .u8 x1) := hc 1 x1 rfl
    have hN : acc (f - leadOf 2) ((x1 :: r1).take ((2 : Int) - 1).toNat) = (f - 128) * 256 + x1 := by rw [show leadOf 2 = 128 by decide +kernel]; rfl
    have hl2 : 2 ≤ (x1 :: r1).length + 1 := by omega
    refine (refGet2 f x1 b off ((x1 :: r1).length + 1) cap w hl2 hcap hm hf.1 hf.2 ht hlo hhi hx1.1 hx1.2 c0 c1).mono ?_
    rintro e w' ⟨hE, hd⟩
    refine ⟨?_, hd⟩
    rcases hE with ⟨h, rfl⟩ | ⟨h, rfl⟩
    · rw [getRet_bad f (x1 :: r1) 2 _ ht hsh hN h]
    · rw [getRet_good f (x1 :: r1) 2 _ ht hsh hN h]
  · rw [ht] at hsh
    obtain ⟨x1, r1, rfl⟩ : ∃ x t, r = x :: t := cons_of (by omega)
    obtain ⟨x2, r2, rfl⟩ : ∃ x t, r1 = x :: t := cons_of (by simp only [List.length_cons] at hsh; omega)
    have hx1 := hx x1 (by simp)
    have c1 : w.cell? ⟨b, off + 1, none⟩ = some (.int .u8 x1) := hc 1 x1 rfl
    have hx2 := hx x2 (by simp)
    have c2 : w.cell? ⟨b, off + 2, none⟩ = some (.int .u8 x2) := hc 2 x2 rfl
    have hN : acc (f - leadOf 3) ((x1 :: x2 :: r2).take ((3 : Int) - 1).toNat) = ((f - 192) * 256 + x1) * 256 + x2 := by rw [show leadOf 3 = 192 by decide +kernel]; rfl
    have hl2 : 3 ≤ (x1 :: x2 :: r2).length + 1 := by omega
    refine (refGet3 f x1 x2 b off ((x1 :: x2 :: r2).length + 1) cap w hl2 hcap hm hf.1 hf.2 ht hlo hhi hx1.1 hx1.2 hx2.1 hx2.2 c0 c1 c2).mono ?_
    rintro e w' ⟨hE, hd⟩
    refine ⟨?_, hd⟩
    rcases hE with ⟨h, rfl⟩ | ⟨h, rfl⟩
    · rw [getRet_bad f (x1 :: x2 :: r2) 3 _ ht hsh hN h]
    · rw [getRet_good f (x1 :: x2 :: r2) 3 _ ht hsh hN h]
  · rw [ht] at hsh
    obtain ⟨x1, r1, rfl⟩ : ∃ x t, r = x :: t := cons_of (by omega)
    obtain ⟨x2, r2, rfl⟩ : ∃ x t, r1 = x :: t := cons_of (by simp only [List.length_cons] at hsh; omega)
    obtain ⟨x3, r3, rfl⟩ : ∃ x t, r2 = x :: t := cons_of (by simp only [List.length_cons] at hsh; omega)
    have hx1 := hx x1 (by simp)
    have c1 : w.cell? ⟨b, off + 1, none⟩ = some (.int .u8 x1) := hc 1 x1 rfl
    have hx2 := hx x2 (by simp)
    have c2 : w.cell? ⟨b, off + 2, none⟩ = some (.int .u8 x2) := hc 2 x2 rfl
    have hx3 := hx x3 (by simp)
    have c3 : w.cell? ⟨b, off + 3, none⟩ = some (.int .u8 x3) := hc 3 x3 rfl
    have hN : acc (f - leadOf 4) ((x1 :: x2 :: x3 :: r3).take ((4 : Int) - 1).toNat) = (((f - 224) * 256 + x1) * 256 + x2) * 256 + x3 := by rw [show leadOf 4 = 224 by decide +kernel]; rfl
    have hl2 : 4 ≤ (x1 :: x2 :: x3 :: r3).length + 1 := by omega
    refine (refGet4 f x1 x2 x3 b off ((x1 :: x2 :: x3 :: r3).length + 1) cap w hl2 hcap hm hf.1 hf.2 ht hlo hhi hx1.1 hx1.2 hx2.1 hx2.2 hx3.1 hx3.2 c0 c1 c2 c3).mono ?_
    rintro e w' ⟨hE, hd⟩
    refine ⟨?_, hd⟩
    rcases hE with ⟨h, rfl⟩ | ⟨h, rfl⟩
    · rw [getRet_bad f (x1 :: x2 :: x3 :: r3) 4 _ ht hsh hN h]
    · rw [getRet_good f (x1 :: x2 :: x3 :: r3) 4 _ ht hsh hN h]
  · rw [ht] at hsh
    obtain ⟨x1, r1, rfl⟩ : ∃ x t, r = x :: t := cons_of (by omega)
    obtain ⟨x2, r2, rfl⟩ : ∃ x t, r1 = x :: t := cons_of (by simp only [List.length_cons] at hsh; omega)
    obtain ⟨x3, r3, rfl⟩ : ∃ x t, r2 = x :: t := cons_of (by simp only [List.length_cons] at hsh; omega)
    obtain ⟨x4, r4, rfl⟩ : ∃ x t, r3 = x :: t := cons_of (by simp only [List.length_cons] at hsh; omega)
    have hx1 := hx x1 (by simp)
    have c1 : w.cell? ⟨b, off + 1, none⟩ = some (.int .u8 x1) := hc 1 x1 rfl
    have hx2 := hx x2 (by simp)
    have c2 : w.cell? ⟨b, off + 2, none⟩ = some (.int .u8 x2) := hc 2 x2 rfl
    have hx3 := hx x3 (by simp)
    have c3 : w.cell? ⟨b, off + 3, none⟩ = some (.int .u8 x3) := hc 3 x3 rfl
    have hx4 := hx x4 (by simp)
    have c4 : w.cell? ⟨b, off + 4, none⟩ = some (.int .u8 x4) := hc 4 x4 rfl
    have hN : acc (f - leadOf 5) ((x1 :: x2 :: x3 :: x4 :: r4).take ((5 : Int) - 1).toNat) = ((((f - 240) * 256 + x1) * 256 + x2) * 256 + x3) * 256 + x4 := by rw [show leadOf 5 = 240 by decide +kernel]; rfl
    have hl2 : 5 ≤ (x1 :: x2 :: x3 :: x4 :: r4).length + 1 := by omega
    refine (refGet5 f x1 x2 x3 x4 b off ((x1 :: x2 :: x3 :: x4 :: r4).length + 1) cap w hl2 hcap hm hf.1 hf.2 ht hlo hhi hx1.1 hx1.2 hx2.1 hx2.2 hx3.1 hx3.2 hx4.1 hx4.2 c0 c1 c2 c3 c4).mono ?_
    rintro e w' ⟨hE, hd⟩
    refine ⟨?_, hd⟩
    rcases hE with ⟨h, rfl⟩ | ⟨h, rfl⟩
    · rw [getRet_bad f (x1 :: x2 :: x3 :: x4 :: r4) 5 _ ht hsh hN h]
    · rw [getRet_good f (x1 :: x2 :: x3 :: x4 :: r4) 5 _ ht hsh hN h]
  · rw [ht] at hsh
    obtain ⟨x1, r1, rfl⟩ : ∃ x t, r = x :: t := cons_of (by omega)
    obtain ⟨x2, r2, rfl⟩ : ∃ x t, r1 = x :: t := cons_of (by simp only [List.length_cons] at hsh; omega)
    obtain ⟨x3, r3, rfl⟩ : ∃ x t, r2 = x :: t := cons_of (by simp only [List.length_cons] at hsh; omega)
    obtain ⟨x4, r4, rfl⟩ : ∃ x t, r3 = x :: t := cons_of (by simp only [List.length_cons] at hsh; omega)
    obtain ⟨x5, r5, rfl⟩ : ∃ x t, r4 = x :: t := cons_of (by simp only [List.length_cons] at hsh; omega)
    have hx1 := hx x1 (by simp)
    have c1 : w.cell? ⟨b, off + 1, none⟩ = some (.int .u8 x1) := hc 1 x1 rfl
    have hx2 := hx x2 (by simp)
    have c2 : w.cell? ⟨b, off + 2, none⟩ = some (.int .u8 x2) := hc 2 x2 rfl
    have hx3 := hx x3 (by simp)
    have c3 : w.cell? ⟨b, off + 3, none⟩ = some (.int .u8 x3) := hc 3 x3 rfl
    have hx4 := hx x4 (by simp)
    have c4 : w.cell? ⟨b, off + 4, none⟩ = some (.int .u8 x4) := hc 4 x4 rfl
    have hx5 := hx x5 (by simp)
    have c5 : w.cell? ⟨b, off + 5, none⟩ = some (.int .u8 x5) := hc 5 x5 rfl
    have hN : acc (f - leadOf 6) ((x1 :: x2 :: x3 :: x4 :: x5 :: r5).take ((6 : Int) - 1).toNat) = (((((f - 248) * 256 + x1) * 256 + x2) * 256 + x3) * 256 + x4) * 256 + x5 := by rw [show leadOf 6 = 248 by decide +kernel]; rfl
    have hl2 : 6 ≤ (x1 :: x2 :: x3 :: x4 :: x5 :: r5).length + 1 := by omega
    refine (refGet6 f x1 x2 x3 x4 x5 b off ((x1 :: x2 :: x3 :: x4 :: x5 :: r5).length + 1) cap w hl2 hcap hm hf.1 hf.2 ht hlo hhi hx1.1 hx1.2 hx2.1 hx2.2 hx3.1 hx3.2 hx4.1 hx4.2 hx5.1 hx5.2 c0 c1 c2 c3 c4 c5).mono ?_
    rintro e w' ⟨hE, hd⟩
    refine ⟨?_, hd⟩
    rcases hE with ⟨h, rfl⟩ | ⟨h, rfl⟩
    · rw [getRet_bad f (x1 :: x2 :: x3 :: x4 :: x5 :: r5) 6 _ ht hsh hN h]
    · rw [getRet_good f (x1 :: x2 :: x3 :: x4 :: x5 :: r5) 6 _ ht hsh hN h]
  · rw [ht] at hsh
    obtain ⟨x1, r1, rfl⟩ : ∃ x t, r = x :: t := cons_of (by omega)
    obtain ⟨x2, r2, rfl⟩ : ∃ x t, r1 = x :: t := cons_of (by simp only [List.length_cons] at hsh; omega)
    obtain ⟨x3, r3, rfl⟩ : ∃ x t, r2 = x :: t := cons_of (by simp only [List.length_cons] at hsh; omega)
    obtain ⟨x4, r4, rfl⟩ : ∃ x t, r3 = x :: t := cons_of (by simp only [List.length_cons] at hsh; omega)
    obtain ⟨x5, r5, rfl⟩ : ∃ x t, r4 = x :: t := cons_of (by simp only [List.length_cons] at hsh; omega)
    obtain ⟨x6, r6, rfl⟩ : ∃ x t, r5 = x :: t := cons_of (by simp only [List.length_cons] at hsh; omega)
    have hx1 := hx x1 (by simp)
    have c1 : w.cell? ⟨b, off + 1, none⟩ = some (.int .u8 x1) := hc 1 x1 rfl
    have hx2 := hx x2 (by simp)
    have c2 : w.cell? ⟨b, off + 2, none⟩ = some (.int .u8 x2) := hc 2 x2 rfl
    have hx3 := hx x3 (by simp)
    have c3 : w.cell? ⟨b, off + 3, none⟩ = some (.int .u8 x3) := hc 3 x3 rfl
    have hx4 := hx x4 (by simp)
    have c4 : w.cell? ⟨b, off + 4, none⟩ = some (.int .u8 x4) := hc 4 x4 rfl
    have hx5 := hx x5 (by simp)
    have c5 : w.cell? ⟨b, off + 5, none⟩ = some (.int .u8 x5) := hc 5 x5 rfl
    have hx6 := hx x6 (by simp)
    have c6 : w.cell? ⟨b, off + 6, none⟩ = some (.int .u8 x6) := hc 6 x6 rfl
    have hN : acc (f - leadOf 7) ((x1 :: x2 :: x3 :: x4 :: x5 :: x6 :: r6).take ((7 : Int) - 1).toNat) = ((((((f - 252) * 256 + x1) * 256 + x2) * 256 + x3) * 256 + x4) * 256 + x5) * 256 + x6 := by rw [show leadOf 7 = 252 by decide +kernel]; rfl
    have hl2 : 7 ≤ (x1 :: x2 :: x3 :: x4 :: x5 :: x6 :: r6).length + 1 := by omega
    refine (refGet7 f x1 x2 x3 x4 x5 x6 b off ((x1 :: x2 :: x3 :: x4 :: x5 :: x6 :: r6).length + 1) cap w hl2 hcap hm hf.1 hf.2 ht hlo hhi hx1.1 hx1.2 hx2.1 hx2.2 hx3.1 hx3.2 hx4.1 hx4.2 hx5.1 hx5.2 hx6.1 hx6.2 c0 c1 c2 c3 c4 c5 c6).mono ?_
    rintro e w' ⟨hE, hd⟩
    refine ⟨?_, hd⟩
    rcases hE with ⟨h, rfl⟩ | ⟨h, rfl⟩
    · rw [getRet_bad f (x1 :: x2 :: x3 :: x4 :: x5 :: x6 :: r6) 7 _ ht hsh hN h]
    · rw [getRet_good f (x1 :: x2 :: x3 :: x4 :: x5 :: x6 :: r6) 7 _ ht hsh hN h]
  · rw [ht] at hsh
    obtain ⟨x1, r1, rfl⟩ : ∃ x t, r = x :: t := cons_of (by omega)
    obtain ⟨x2, r2, rfl⟩ : ∃ x t, r1 = x :: t := cons_of (by simp only [List.length_cons] at hsh; omega)
    obtain ⟨x3, r3, rfl⟩ : ∃ x t, r2 = x :: t := cons_of (by simp only [List.length_cons] at hsh; omega)
    obtain ⟨x4, r4, rfl⟩ : ∃ x t, r3 = x :: t := cons_of (by simp only [List.length_cons] at hsh; omega)
    obtain ⟨x5, r5, rfl⟩ : ∃ x t, r4 = x :: t := cons_of (by simp only [List.length_cons] at hsh; omega)
    obtain ⟨x6, r6, rfl⟩ : ∃ x t, r5 = x :: t := cons_of (by simp only [List.length_cons] at hsh; omega)
    obtain ⟨x7, r7, rfl⟩ : ∃ x t, r6 = x :: t := cons_of (by simp only [List.length_cons] at hsh; omega)
    have hx1 := hx x1 (by simp)
    have c1 : w.cell? ⟨b, off + 1, none⟩ = some (.int .u8 x1) := hc 1 x1 rfl
    have hx2 := hx x2 (by simp)
    have c2 : w.cell? ⟨b, off + 2, none⟩ = some (.int .u8 x2) := hc 2 x2 rfl
    have hx3 := hx x3 (by simp)
    have c3 : w.cell? ⟨b, off + 3, none⟩ = some (.int .u8 x3) := hc 3 x3 rfl
    have hx4 := hx x4 (by simp)
    have c4 : w.cell? ⟨b, off + 4, none⟩ = some (.int .u8 x4) := hc 4 x4 rfl
    have hx5 := hx x5 (by simp)
    have c5 : w.cell? ⟨b, off + 5, none⟩ = some (.int .u8 x5) := hc 5 x5 rfl
    have hx6 := hx x6 (by simp)
    have c6 : w.cell? ⟨b, off + 6, none⟩ = some (.int .u8 x6) := hc 6 x6 rfl
    have hx7 := hx x7 (by simp)
    have c7 : w.cell? ⟨b, off + 7, none⟩ = some (.int .u8 x7) := hc 7 x7 rfl
    have hN : acc (f - leadOf 8) ((x1 :: x2 :: x3 :: x4 :: x5 :: x6 :: x7 :: r7).take ((8 : Int) - 1).toNat) = (((((((f - 254) * 256 + x1) * 256 + x2) * 256 + x3) * 256 + x4) * 256 + x5) * 256 + x6) * 256 + x7 := by rw [show leadOf 8 = 254 by decide +kernel]; rfl
    have hl2 : 8 ≤ (x1 :: x2 :: x3 :: x4 :: x5 :: x6 :: x7 :: r7).length + 1 := by omega
    refine (refGet8 f x1 x2 x3 x4 x5 x6 x7 b off ((x1 :: x2 :: x3 :: x4 :: x5 :: x6 :: x7 :: r7).length + 1) cap w hl2 hcap hm hf.1 hf.2 ht hlo hhi hx1.1 hx1.2 hx2.1 hx2.2 hx3.1 hx3.2 hx4.1 hx4.2 hx5.1 hx5.2 hx6.1 hx6.2 hx7.1 hx7.2 c0 c1 c2 c3 c4 c5 c6 c7).mono ?_
    rintro e w' ⟨hE, hd⟩
    refine ⟨?_, hd⟩
    rcases hE with ⟨h, rfl⟩ | ⟨h, rfl⟩
    · rw [getRet_bad f (x1 :: x2 :: x3 :: x4 :: x5 :: x6 :: x7 :: r7) 8 _ ht hsh hN h]
    · rw [getRet_good f (x1 :: x2 :: x3 :: x4 :: x5 :: x6 :: x7 :: r7) 8 _ ht hsh hN h]
  · rw [ht] at hsh
    obtain ⟨x1, r1, rfl⟩ : ∃ x t, r = x :: t := cons_of (by omega)
    obtain ⟨x2, r2, rfl⟩ : ∃ x t, r1 = x :: t := cons_of (by simp only [List.length_cons] at hsh; omega)
    obtain ⟨x3, r3, rfl⟩ : ∃ x t, r2 = x :: t := cons_of (by simp only [List.length_cons] at hsh; omega)
    obtain ⟨x4, r4, rfl⟩ : ∃ x t, r3 = x :: t := cons_of (by simp only [List.length_cons] at hsh; omega)
    obtain ⟨x5, r5, rfl⟩ : ∃ x t, r4 = x :: t := cons_of (by simp only [List.length_cons] at hsh; omega)
    obtain ⟨x6, r6, rfl⟩ : ∃ x t, r5 = x :: t := cons_of (by simp only [List.length_cons] at hsh; omega)
    obtain ⟨x7, r7, rfl⟩ : ∃ x t, r6 = x :: t := cons_of (by simp only [List.length_cons] at hsh; omega)
    obtain ⟨x8, r8, rfl⟩ : ∃ x t, r7 = x :: t := cons_of (by simp only [List.length_cons] at hsh; omega)
    have hx1 := hx x1 (by simp)
    have c1 : w.cell? ⟨b, off + 1, none⟩ = some (.int .u8 x1) := hc 1 x1 rfl
    have hx2 := hx x2 (by simp)
    have c2 : w.cell? ⟨b, off + 2, none⟩ = some (.int .u8 x2) := hc 2 x2 rfl
    have hx3 := hx x3 (by simp)
    have c3 : w.cell? ⟨b, off + 3, none⟩ = some (.int .u8 x3) := hc 3 x3 rfl
    have hx4 := hx x4 (by simp)
    have c4 : w.cell? ⟨b, off + 4, none⟩ = some (.int .u8 x4) := hc 4 x4 rfl
    have hx5 := hx x5 (by simp)
    have c5 : w.cell? ⟨b, off + 5, none⟩ = some (.int .u8 x5) := hc 5 x5 rfl
    have hx6 := hx x6 (by simp)
    have c6 : w.cell? ⟨b, off + 6, none⟩ = some (.int .u8 x6) := hc 6 x6 rfl
    have hx7 := hx x7 (by simp)
    have c7 : w.cell? ⟨b, off + 7, none⟩ = some (.int .u8 x7) := hc 7 x7 rfl
    have hx8 := hx x8 (by simp)
    have c8 : w.cell? ⟨b, off + 8, none⟩ = some (.int .u8 x8) := hc 8 x8 rfl
    have hN : acc (f - leadOf 9) ((x1 :: x2 :: x3 :: x4 :: x5 :: x6 :: x7 :: x8 :: r8).take ((9 : Int) - 1).toNat) = ((((((((f - 255) * 256 + x1) * 256 + x2) * 256 + x3) * 256 + x4) * 256 + x5) * 256 + x6) * 256 + x7) * 256 + x8 := by rw [show leadOf 9 = 255 by decide +kernel]; rfl
    have hl2 : 9 ≤ (x1 :: x2 :: x3 :: x4 :: x5 :: x6 :: x7 :: x8 :: r8).length + 1 := by omega
    refine (refGet9 f x1 x2 x3 x4 x5 x6 x7 x8 b off ((x1 :: x2 :: x3 :: x4 :: x5 :: x6 :: x7 :: x8 :: r8).length + 1) cap w hl2 hcap hm hf.1 hf.2 ht hlo hhi hx1.1 hx1.2 hx2.1 hx2.2 hx3.1 hx3.2 hx4.1 hx4.2 hx5.1 hx5.2 hx6.1 hx6.2 hx7.1 hx7.2 hx8.1 hx8.2 c0 c1 c2 c3 c4 c5 c6 c7 c8).mono ?_
    rintro e w' ⟨hE, hd⟩
    refine ⟨?_, hd⟩
    rcases hE with ⟨h, rfl⟩ | ⟨h, rfl⟩
    · rw [getRet_bad f (x1 :: x2 :: x3 :: x4 :: x5 :: x6 :: x7 :: x8 :: r8) 9 _ ht hsh hN h]
    · rw [getRet_good f (x1 :: x2 :: x3 :: x4 :: x5 :: x6 :: x7 :: x8 :: r8) 9 _ ht hsh hN h]
end Go.Proofs.YtnchjlimkgbfpaaGreatDoor
