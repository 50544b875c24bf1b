
import Derived.Test.YtnchjlimkgbfpaaGreatDoorVPut
import Derived.Deep.QuietTactic
import Derived.BigQuiet
namespace Go.Proofs.YtnchjlimkgbfpaaGreatDoor
open Go.RowKit
set_option linter.unusedVariables false
set_option maxRecDepth 20000
def acc (a : Int) (xs : List Int) : Int := xs.foldl (fun a x => a * 256 + x) a
def getOf : List Int → Int × Int × Int
  | [] => (0, 0, 8)
  | f :: r => if ((r.length : Int) + 1) < toldOf f then (0, 0, 8) else
      if sizeOf (acc (f - leadOf (toldOf f)) (r.take (toldOf f - 1).toNat)) < toldOf f then (0, 0, 4) else
        (acc (f - leadOf (toldOf f)) (r.take (toldOf f - 1).toNat), toldOf f, 0)
def GetEnd (N k : Int) (e : Ending) : Prop :=
  (sizeOf N < k ∧ e = .returned (.tuple #[.int .u64 0, .int .i64 0, .int .i64 4])) ∨
  (¬ sizeOf N < k ∧ e = .returned (.tuple #[.int .u64 N, .int .i64 k, .int .i64 0]))
theorem GetEnd.bad {N k : Int} (h : sizeOf N < k) : GetEnd N k (.returned (.tuple #[.int .u64 0, .int .i64 0, .int .i64 4])) := .inl ⟨h, rfl⟩
theorem GetEnd.good {N k : Int} (h : ¬ sizeOf N < k) : GetEnd N k (.returned (.tuple #[.int .u64 N, .int .i64 k, .int .i64 0])) := .inr ⟨h, rfl⟩
theorem andNot_table : ∀ f : Fin 256, bits .andNot .u8 (f.val : Int) (leadOf (toldOf (f.val : Int))) = (f.val : Int) - leadOf (toldOf (f.val : Int)) := by decide +kernel
theorem andNot_lead (f k L : Int) (h0 : 0 ≤ f) (h1 : f ≤ 255) (ht : toldOf f = k) (hl : leadOf k = L) : bits .andNot .u8 f L = f - L := by
  have h := andNot_table ⟨f.toNat, by omega⟩
  have e : ((f.toNat : Nat) : Int) = f := by omega
  have h' : bits .andNot .u8 ((f.toNat : Nat) : Int) (leadOf (toldOf ((f.toNat : Nat) : Int))) = ((f.toNat : Nat) : Int) - leadOf (toldOf ((f.toNat : Nat) : Int)) := h
  rw [e, ht, hl] at h'
  exact h'
theorem or_join (a x : Int) (h0 : 0 ≤ a) (h1 : a * 256 ≤ 18446744073709551360) (h2 : 0 ≤ x) (h3 : x ≤ 255) : bits .or .u64 (a * 256) x = a * 256 + x := by
  obtain ⟨A, rfl⟩ := Int.eq_ofNat_of_zero_le h0
  obtain ⟨X, rfl⟩ := Int.eq_ofNat_of_zero_le h2
  have e : ((A : Int) * 256) = ((A * 256 : Nat) : Int) := by omega
  rw [e, bits_or_u64_nat _ _ (by omega) (by omega)]
  have h := Nat.shiftLeft_add_eq_or_of_lt (b := X) (i := 8) (by omega) A
  rw [Nat.shiftLeft_eq] at h
  have h' : A * 256 + X = A * 256 ||| X := h
  omega
theorem told_table : ∀ f : Fin 256, toldOf (f.val : Int) = if f.val ≤ 127 then 1 else if f.val ≤ 191 then 2 else if f.val ≤ 223 then 3 else if f.val ≤ 239 then 4 else if f.val ≤ 247 then 5 else if f.val ≤ 251 then 6 else if f.val ≤ 253 then 7 else if f.val ≤ 254 then 8 else 9 := by decide +kernel
theorem told_cases (f : Int) (h0 : 0 ≤ f) (h1 : f ≤ 255) :
    (toldOf f = 1 ∧ 0 ≤ f ∧ f ≤ 127) ∨ (toldOf f = 2 ∧ 128 ≤ f ∧ f ≤ 191) ∨ (toldOf f = 3 ∧ 192 ≤ f ∧ f ≤ 223) ∨ (toldOf f = 4 ∧ 224 ≤ f ∧ f ≤ 239) ∨ (toldOf f = 5 ∧ 240 ≤ f ∧ f ≤ 247) ∨ (toldOf f = 6 ∧ 248 ≤ f ∧ f ≤ 251) ∨ (toldOf f = 7 ∧ 252 ≤ f ∧ f ≤ 253) ∨ (toldOf f = 8 ∧ 254 ≤ f ∧ f ≤ 254) ∨ (toldOf f = 9 ∧ 255 ≤ f ∧ f ≤ 255) := by
  have h := told_table ⟨f.toNat, by omega⟩
  have e : ((f.toNat : Nat) : Int) = f := by omega
  have h' : toldOf ((f.toNat : Nat) : Int) = if f.toNat ≤ 127 then 1 else if f.toNat ≤ 191 then 2 else if f.toNat ≤ 223 then 3 else if f.toNat ≤ 239 then 4 else if f.toNat ≤ 247 then 5 else if f.toNat ≤ 251 then 6 else if f.toNat ≤ 253 then 7 else if f.toNat ≤ 254 then 8 else 9 := h
  rw [e] at h'
  by_cases c1 : f.toNat ≤ 127
  · rw [if_pos c1] at h'; exact .inl ⟨h', by omega, by omega⟩
  rw [if_neg c1] at h'
  by_cases c2 : f.toNat ≤ 191
  · rw [if_pos c2] at h'; exact .inr (.inl ⟨h', by omega, by omega⟩)
  rw [if_neg c2] at h'
  by_cases c3 : f.toNat ≤ 223
  · rw [if_pos c3] at h'; exact .inr (.inr (.inl ⟨h', by omega, by omega⟩))
  rw [if_neg c3] at h'
  by_cases c4 : f.toNat ≤ 239
  · rw [if_pos c4] at h'; exact .inr (.inr (.inr (.inl ⟨h', by omega, by omega⟩)))
  rw [if_neg c4] at h'
  by_cases c5 : f.toNat ≤ 247
  · rw [if_pos c5] at h'; exact .inr (.inr (.inr (.inr (.inl ⟨h', by omega, by omega⟩))))
  rw [if_neg c5] at h'
  by_cases c6 : f.toNat ≤ 251
  · rw [if_pos c6] at h'; exact .inr (.inr (.inr (.inr (.inr (.inl ⟨h', by omega, by omega⟩)))))
  rw [if_neg c6] at h'
  by_cases c7 : f.toNat ≤ 253
  · rw [if_pos c7] at h'; exact .inr (.inr (.inr (.inr (.inr (.inr (.inl ⟨h', by omega, by omega⟩))))))
  rw [if_neg c7] at h'
  by_cases c8 : f.toNat ≤ 254
  · rw [if_pos c8] at h'; exact .inr (.inr (.inr (.inr (.inr (.inr (.inr (.inl ⟨h', by omega, by omega⟩)))))))
  rw [if_neg c8] at h'
  exact .inr (.inr (.inr (.inr (.inr (.inr (.inr (.inr (⟨h', by omega, by omega⟩))))))))
set_option maxHeartbeats 1000000 in
theorem get1 (f : Int)  (b off len cap : Nat) (w : World) (hlen : 1 ≤ len) (hcap : len ≤ cap) (hm : cap ≤ maxLen) (hf0 : 0 ≤ f) (hf1 : f ≤ 255) (ht : toldOf f = 1) (hlo : 0 ≤ f) (hhi : f ≤ 127)
     (c0 : w.cell? ⟨b, off, none⟩ = some (.int .u8 f))  :
    Calls Tryz.prog 90 #[.slice (some ⟨b, off, none⟩) len cap] w fun e w' => GetEnd (f) 1 e ∧ ∃ d, w' = w.drewN d := by
  have H : Hid (toldOf f = 1) := ht
  have hl : leadOf 1 = 0 := by decide +kernel
  have ha : bits .andNot .u8 f 0 = f := by rw [andNot_lead f 1 0 hf0 hf1 ht hl]; omega
  clear ht
  unfold maxLen at hm
  have hne : ((len : Int) == 0) = false := by simp; omega
  have hge : ¬ (len : Int) < 1 := by omega
  by_cases hs : sizeOf (f) < 1
  all_goals
    have hcc : (cap = 1 ∧ len = 1) ∨ ¬ cap = 1 := by omega
    rcases hcc with ⟨rfl, rfl⟩ | hcc
  all_goals
    go_enter Tryz.func90, Tryz.ntmps90
    go_wp2_with fail
    refine (told_any f _ hf0 hf1).mono ?_
    rintro e w' ⟨rfl, rfl⟩
    rw [H.out]
    go_wp2_with fail
    go_quiet ((go_at_call 134; exact Calls.quiet_of_same (lead_any _ _ (by omega) (by omega))))
    go_wp2_with fail
    refine wp_loop_rounds 1 ?_
    rw [rounds_succ]
    go_wp2_with fail
    refine (size_any (f) _ (by omega) (by omega)).mono ?_
    rintro e w2 ⟨rfl, rfl⟩
    go_wp2
    go_ret3
  · exact ⟨GetEnd.bad hs, _, rfl⟩
  · exact ⟨GetEnd.bad hs, _, rfl⟩
  · exact ⟨GetEnd.good (by omega), _, rfl⟩
  · exact ⟨GetEnd.good (by omega), _, rfl⟩
set_option maxHeartbeats 1000000 in
theorem get2 (f : Int) (x1 : Int) (b off len cap : Nat) (w : World) (hlen : 2 ≤ len) (hcap : len ≤ cap) (hm : cap ≤ maxLen) (hf0 : 0 ≤ f) (hf1 : f ≤ 255) (ht : toldOf f = 2) (hlo : 128 ≤ f) (hhi : f ≤ 191)
    (p1 : 0 ≤ x1) (q1 : x1 ≤ 255) (c0 : w.cell? ⟨b, off, none⟩ = some (.int .u8 f)) (c1 : w.cell? ⟨b, off + 1, none⟩ = some (.int .u8 x1)) :
    Calls Tryz.prog 90 #[.slice (some ⟨b, off, none⟩) len cap] w fun e w' => GetEnd ((f - 128) * 256 + x1) 2 e ∧ ∃ d, w' = w.drewN d := by
  have H : Hid (toldOf f = 2) := ht
  have hl : leadOf 2 = 128 := by decide +kernel
  have ha : bits .andNot .u8 f 128 = f - 128 := by rw [andNot_lead f 2 128 hf0 hf1 ht hl]
  clear ht
  unfold maxLen at hm
  have hne : ((len : Int) == 0) = false := by simp; omega
  have hge : ¬ (len : Int) < 2 := by omega
  have o1 : bits .or .u64 ((f - 128) * 256) x1 = (f - 128) * 256 + x1 := or_join _ _ (by omega) (by omega) p1 q1
  by_cases hs : sizeOf ((f - 128) * 256 + x1) < 2
  all_goals
    go_enter Tryz.func90, Tryz.ntmps90
    go_wp2_with fail
    refine (told_any f _ hf0 hf1).mono ?_
    rintro e w' ⟨rfl, rfl⟩
    rw [H.out]
    go_wp2_with fail
    go_quiet ((go_at_call 134; exact Calls.quiet_of_same (lead_any _ _ (by omega) (by omega))))
    go_wp2_with fail
    refine wp_loop_rounds 2 ?_
    rw [rounds_succ]
    go_wp2
    rw [rounds_succ]
    go_wp2_with fail
    refine (size_any ((f - 128) * 256 + x1) _ (by omega) (by omega)).mono ?_
    rintro e w2 ⟨rfl, rfl⟩
    go_wp2
    go_ret3
  · exact ⟨GetEnd.bad hs, _, rfl⟩
  · exact ⟨GetEnd.good (by omega), _, rfl⟩
set_option maxHeartbeats 1000000 in
theorem get3 (f : Int) (x1 x2 : Int) (b off len cap : Nat) (w : World) (hlen : 3 ≤ len) (hcap : len ≤ cap) (hm : cap ≤ maxLen) (hf0 : 0 ≤ f) (hf1 : f ≤ 255) (ht : toldOf f = 3) (hlo : 192 ≤ f) (hhi : f ≤ 223)
    (p1 : 0 ≤ x1) (q1 : x1 ≤ 255) (p2 : 0 ≤ x2) (q2 : x2 ≤ 255) (c0 : w.cell? ⟨b, off, none⟩ = some (.int .u8 f)) (c1 : w.cell? ⟨b, off + 1, none⟩ = some (.int .u8 x1)) (c2 : w.cell? ⟨b, off + 2, none⟩ = some (.int .u8 x2)) :
    Calls Tryz.prog 90 #[.slice (some ⟨b, off, none⟩) len cap] w fun e w' => GetEnd (((f - 192) * 256 + x1) * 256 + x2) 3 e ∧ ∃ d, w' = w.drewN d := by
  have H : Hid (toldOf f = 3) := ht
  have hl : leadOf 3 = 192 := by decide +kernel
  have ha : bits .andNot .u8 f 192 = f - 192 := by rw [andNot_lead f 3 192 hf0 hf1 ht hl]
  clear ht
  unfold maxLen at hm
  have hne : ((len : Int) == 0) = false := by simp; omega
  have hge : ¬ (len : Int) < 3 := by omega
  have o1 : bits .or .u64 ((f - 192) * 256) x1 = (f - 192) * 256 + x1 := or_join _ _ (by omega) (by omega) p1 q1
  have o2 : bits .or .u64 (((f - 192) * 256 + x1) * 256) x2 = ((f - 192) * 256 + x1) * 256 + x2 := or_join _ _ (by omega) (by omega) p2 q2
  by_cases hs : sizeOf (((f - 192) * 256 + x1) * 256 + x2) < 3
  all_goals
    go_enter Tryz.func90, Tryz.ntmps90
    go_wp2_with fail
    refine (told_any f _ hf0 hf1).mono ?_
    rintro e w' ⟨rfl, rfl⟩
    rw [H.out]
    go_wp2_with fail
    go_quiet ((go_at_call 134; exact Calls.quiet_of_same (lead_any _ _ (by omega) (by omega))))
    go_wp2_with fail
    refine wp_loop_rounds 3 ?_
    rw [rounds_succ]
    go_wp2
    rw [rounds_succ]
    go_wp2
    rw [rounds_succ]
    go_wp2_with fail
    refine (size_any (((f - 192) * 256 + x1) * 256 + x2) _ (by omega) (by omega)).mono ?_
    rintro e w2 ⟨rfl, rfl⟩
    go_wp2
    go_ret3
  · exact ⟨GetEnd.bad hs, _, rfl⟩
  · exact ⟨GetEnd.good (by omega), _, rfl⟩
set_option maxHeartbeats 1000000 in
theorem get4 (f : Int) (x1 x2 x3 : Int) (b off len cap : Nat) (w : World) (hlen : 4 ≤ len) (hcap : len ≤ cap) (hm : cap ≤ maxLen) (hf0 : 0 ≤ f) (hf1 : f ≤ 255) (ht : toldOf f = 4) (hlo : 224 ≤ f) (hhi : f ≤ 239)
    (p1 : 0 ≤ x1) (q1 : x1 ≤ 255) (p2 : 0 ≤ x2) (q2 : x2 ≤ 255) (p3 : 0 ≤ x3) (q3 : x3 ≤ 255) (c0 : w.cell? ⟨b, off, none⟩ = some (.int .u8 f)) (c1 : w.cell? ⟨b, off + 1, none⟩ = some (.int .u8 x1)) (c2 : w.cell? ⟨b, off + 2, none⟩ = some (.int .u8 x2)) (c3 : w.cell? ⟨b, off + 3, none⟩ = some (.int .u8 x3)) :
    Calls Tryz.prog 90 #[.slice (some ⟨b, off, none⟩) len cap] w fun e w' => GetEnd ((((f - 224) * 256 + x1) * 256 + x2) * 256 + x3) 4 e ∧ ∃ d, w' = w.drewN d := by
  have H : Hid (toldOf f = 4) := ht
  have hl : leadOf 4 = 224 := by decide +kernel
  have ha : bits .andNot .u8 f 224 = f - 224 := by rw [andNot_lead f 4 224 hf0 hf1 ht hl]
  clear ht
  unfold maxLen at hm
  have hne : ((len : Int) == 0) = false := by simp; omega
  have hge : ¬ (len : Int) < 4 := by omega
  have o1 : bits .or .u64 ((f - 224) * 256) x1 = (f - 224) * 256 + x1 := or_join _ _ (by omega) (by omega) p1 q1
  have o2 : bits .or .u64 (((f - 224) * 256 + x1) * 256) x2 = ((f - 224) * 256 + x1) * 256 + x2 := or_join _ _ (by omega) (by omega) p2 q2
  have o3 : bits .or .u64 ((((f - 224) * 256 + x1) * 256 + x2) * 256) x3 = (((f - 224) * 256 + x1) * 256 + x2) * 256 + x3 := or_join _ _ (by omega) (by omega) p3 q3
  by_cases hs : sizeOf ((((f - 224) * 256 + x1) * 256 + x2) * 256 + x3) < 4
  all_goals
    go_enter Tryz.func90, Tryz.ntmps90
    go_wp2_with fail
    refine (told_any f _ hf0 hf1).mono ?_
    rintro e w' ⟨rfl, rfl⟩
    rw [H.out]
    go_wp2_with fail
    go_quiet ((go_at_call 134; exact Calls.quiet_of_same (lead_any _ _ (by omega) (by omega))))
    go_wp2_with fail
    refine wp_loop_rounds 4 ?_
    rw [rounds_succ]
    go_wp2
    rw [rounds_succ]
    go_wp2
    rw [rounds_succ]
    go_wp2
    rw [rounds_succ]
    go_wp2_with fail
    refine (size_any ((((f - 224) * 256 + x1) * 256 + x2) * 256 + x3) _ (by omega) (by omega)).mono ?_
    rintro e w2 ⟨rfl, rfl⟩
    go_wp2
    go_ret3
  · exact ⟨GetEnd.bad hs, _, rfl⟩
  · exact ⟨GetEnd.good (by omega), _, rfl⟩
set_option maxHeartbeats 1000000 in
theorem get5 (f : Int) (x1 x2 x3 x4 : Int) (b off len cap : Nat) (w : World) (hlen : 5 ≤ len) (hcap : len ≤ cap) (hm : cap ≤ maxLen) (hf0 : 0 ≤ f) (hf1 : f ≤ 255) (ht : toldOf f = 5) (hlo : 240 ≤ f) (hhi : f ≤ 247)
    (p1 : 0 ≤ x1) (q1 : x1 ≤ 255) (p2 : 0 ≤ x2) (q2 : x2 ≤ 255) (p3 : 0 ≤ x3) (q3 : x3 ≤ 255) (p4 : 0 ≤ x4) (q4 : x4 ≤ 255) (c0 : w.cell? ⟨b, off, none⟩ = some (.int .u8 f)) (c1 : w.cell? ⟨b, off + 1, none⟩ = some (.int .u8 x1)) (c2 : w.cell? ⟨b, off + 2, none⟩ = some (.int .u8 x2)) (c3 : w.cell? ⟨b, off + 3, none⟩ = some (.int .u8 x3)) (c4 : w.cell? ⟨b, off + 4, none⟩ = some (.int .u8 x4)) :
    Calls Tryz.prog 90 #[.slice (some ⟨b, off, none⟩) len cap] w fun e w' => GetEnd (((((f - 240) * 256 + x1) * 256 + x2) * 256 + x3) * 256 + x4) 5 e ∧ ∃ d, w' = w.drewN d := by
  have H : Hid (toldOf f = 5) := ht
  have hl : leadOf 5 = 240 := by decide +kernel
  have ha : bits .andNot .u8 f 240 = f - 240 := by rw [andNot_lead f 5 240 hf0 hf1 ht hl]
  clear ht
  unfold maxLen at hm
  have hne : ((len : Int) == 0) = false := by simp; omega
  have hge : ¬ (len : Int) < 5 := by omega
  have o1 : bits .or .u64 ((f - 240) * 256) x1 = (f - 240) * 256 + x1 := or_join _ _ (by omega) (by omega) p1 q1
  have o2 : bits .or .u64 (((f - 240) * 256 + x1) * 256) x2 = ((f - 240) * 256 + x1) * 256 + x2 := or_join _ _ (by omega) (by omega) p2 q2
  have o3 : bits .or .u64 ((((f - 240) * 256 + x1) * 256 + x2) * 256) x3 = (((f - 240) * 256 + x1) * 256 + x2) * 256 + x3 := or_join _ _ (by omega) (by omega) p3 q3
  have o4 : bits .or .u64 (((((f - 240) * 256 + x1) * 256 + x2) * 256 + x3) * 256) x4 = ((((f - 240) * 256 + x1) * 256 + x2) * 256 + x3) * 256 + x4 := or_join _ _ (by omega) (by omega) p4 q4
  by_cases hs : sizeOf (((((f - 240) * 256 + x1) * 256 + x2) * 256 + x3) * 256 + x4) < 5
  all_goals
    go_enter Tryz.func90, Tryz.ntmps90
    go_wp2_with fail
    refine (told_any f _ hf0 hf1).mono ?_
    rintro e w' ⟨rfl, rfl⟩
    rw [H.out]
    go_wp2_with fail
    go_quiet ((go_at_call 134; exact Calls.quiet_of_same (lead_any _ _ (by omega) (by omega))))
    go_wp2_with fail
    refine wp_loop_rounds 5 ?_
    rw [rounds_succ]
    go_wp2
    rw [rounds_succ]
    go_wp2
    rw [rounds_succ]
    go_wp2
    rw [rounds_succ]
    go_wp2
    rw [rounds_succ]
    go_wp2_with fail
    refine (size_any (((((f - 240) * 256 + x1) * 256 + x2) * 256 + x3) * 256 + x4) _ (by omega) (by omega)).mono ?_
    rintro e w2 ⟨rfl, rfl⟩
    go_wp2
    go_ret3
  · exact ⟨GetEnd.bad hs, _, rfl⟩
  · exact ⟨GetEnd.good (by omega), _, rfl⟩
set_option maxHeartbeats 1000000 in
theorem get6 (f : Int) (x1 x2 x3 x4 x5 : Int) (b off len cap : Nat) (w : World) (hlen : 6 ≤ len) (hcap : len ≤ cap) (hm : cap ≤ maxLen) (hf0 : 0 ≤ f) (hf1 : f ≤ 255) (ht : toldOf f = 6) (hlo : 248 ≤ f) (hhi : f ≤ 251)
    (p1 : 0 ≤ x1) (q1 : x1 ≤ 255) (p2 : 0 ≤ x2) (q2 : x2 ≤ 255) (p3 : 0 ≤ x3) (q3 : x3 ≤ 255) (p4 : 0 ≤ x4) (q4 : x4 ≤ 255) (p5 : 0 ≤ x5) (q5 : x5 ≤ 255) (c0 : w.cell? ⟨b, off, none⟩ = some (.int .u8 f)) (c1 : w.cell? ⟨b, off + 1, none⟩ = some (.int .u8 x1)) (c2 : w.cell? ⟨b, off + 2, none⟩ = some (.int .u8 x2)) (c3 : w.cell? ⟨b, off + 3, none⟩ = some (.int .u8 x3)) (c4 : w.cell? ⟨b, off + 4, none⟩ = some (.int .u8 x4)) (c5 : w.cell? ⟨b, off + 5, none⟩ = some (.int .u8 x5)) :
    Calls Tryz.prog 90 #[.slice (some ⟨b, off, none⟩) len cap] w fun e w' => GetEnd ((((((f - 248) * 256 + x1) * 256 + x2) * 256 + x3) * 256 + x4) * 256 + x5) 6 e ∧ ∃ d, w' = w.drewN d := by
  have H : Hid (toldOf f = 6) := ht
  have hl : leadOf 6 = 248 := by decide +kernel
  have ha : bits .andNot .u8 f 248 = f - 248 := by rw [andNot_lead f 6 248 hf0 hf1 ht hl]
  clear ht
  unfold maxLen at hm
  have hne : ((len : Int) == 0) = false := by simp; omega
  have hge : ¬ (len : Int) < 6 := by omega
  have o1 : bits .or .u64 ((f - 248) * 256) x1 = (f - 248) * 256 + x1 := or_join _ _ (by omega) (by omega) p1 q1
  have o2 : bits .or .u64 (((f - 248) * 256 + x1) * 256) x2 = ((f - 248) * 256 + x1) * 256 + x2 := or_join _ _ (by omega) (by omega) p2 q2
  have o3 : bits .or .u64 ((((f - 248) * 256 + x1) * 256 + x2) * 256) x3 = (((f - 248) * 256 + x1) * 256 + x2) * 256 + x3 := or_join _ _ (by omega) (by omega) p3 q3
  have o4 : bits .or .u64 (((((f - 248) * 256 + x1) * 256 + x2) * 256 + x3) * 256) x4 = ((((f - 248) * 256 + x1) * 256 + x2) * 256 + x3) * 256 + x4 := or_join _ _ (by omega) (by omega) p4 q4
  have o5 : bits .or .u64 ((((((f - 248) * 256 + x1) * 256 + x2) * 256 + x3) * 256 + x4) * 256) x5 = (((((f - 248) * 256 + x1) * 256 + x2) * 256 + x3) * 256 + x4) * 256 + x5 := or_join _ _ (by omega) (by omega) p5 q5
  by_cases hs : sizeOf ((((((f - 248) * 256 + x1) * 256 + x2) * 256 + x3) * 256 + x4) * 256 + x5) < 6
  all_goals
    go_enter Tryz.func90, Tryz.ntmps90
    go_wp2_with fail
    refine (told_any f _ hf0 hf1).mono ?_
    rintro e w' ⟨rfl, rfl⟩
    rw [H.out]
    go_wp2_with fail
    go_quiet ((go_at_call 134; exact Calls.quiet_of_same (lead_any _ _ (by omega) (by omega))))
    go_wp2_with fail
    refine wp_loop_rounds 6 ?_
    rw [rounds_succ]
    go_wp2
    rw [rounds_succ]
    go_wp2
    rw [rounds_succ]
    go_wp2
    rw [rounds_succ]
    go_wp2
    rw [rounds_succ]
    go_wp2
    rw [rounds_succ]
    go_wp2_with fail
    refine (size_any ((((((f - 248) * 256 + x1) * 256 + x2) * 256 + x3) * 256 + x4) * 256 + x5) _ (by omega) (by omega)).mono ?_
    rintro e w2 ⟨rfl, rfl⟩
    go_wp2
    go_ret3
  · exact ⟨GetEnd.bad hs, _, rfl⟩
  · exact ⟨GetEnd.good (by omega), _, rfl⟩
set_option maxHeartbeats 1000000 in
theorem get7 (f : Int) (x1 x2 x3 x4 x5 x6 : Int) (b off len cap : Nat) (w : World) (hlen : 7 ≤ len) (hcap : len ≤ cap) (hm : cap ≤ maxLen) (hf0 : 0 ≤ f) (hf1 : f ≤ 255) (ht : toldOf f = 7) (hlo : 252 ≤ f) (hhi : f ≤ 253)
    (p1 : 0 ≤ x1) (q1 : x1 ≤ 255) (p2 : 0 ≤ x2) (q2 : x2 ≤ 255) (p3 : 0 ≤ x3) (q3 : x3 ≤ 255) (p4 : 0 ≤ x4) (q4 : x4 ≤ 255) (p5 : 0 ≤ x5) (q5 : x5 ≤ 255) (p6 : 0 ≤ x6) (q6 : x6 ≤ 255) (c0 : w.cell? ⟨b, off, none⟩ = some (.int .u8 f)) (c1 : w.cell? ⟨b, off + 1, none⟩ = some (.int .u8 x1)) (c2 : w.cell? ⟨b, off + 2, none⟩ = some (.int .u8 x2)) (c3 : w.cell? ⟨b, off + 3, none⟩ = some (.int .u8 x3)) (c4 : w.cell? ⟨b, off + 4, none⟩ = some (.int .u8 x4)) (c5 : w.cell? ⟨b, off + 5, none⟩ = some (.int .u8 x5)) (c6 : w.cell? ⟨b, off + 6, none⟩ = some (.int .u8 x6)) :
    Calls Tryz.prog 90 #[.slice (some ⟨b, off, none⟩) len cap] w fun e w' => GetEnd (((((((f - 252) * 256 + x1) * 256 + x2) * 256 + x3) * 256 + x4) * 256 + x5) * 256 + x6) 7 e ∧ ∃ d, w' = w.drewN d := by
  have H : Hid (toldOf f = 7) := ht
  have hl : leadOf 7 = 252 := by decide +kernel
  have ha : bits .andNot .u8 f 252 = f - 252 := by rw [andNot_lead f 7 252 hf0 hf1 ht hl]
  clear ht
  unfold maxLen at hm
  have hne : ((len : Int) == 0) = false := by simp; omega
  have hge : ¬ (len : Int) < 7 := by omega
  have o1 : bits .or .u64 ((f - 252) * 256) x1 = (f - 252) * 256 + x1 := or_join _ _ (by omega) (by omega) p1 q1
  have o2 : bits .or .u64 (((f - 252) * 256 + x1) * 256) x2 = ((f - 252) * 256 + x1) * 256 + x2 := or_join _ _ (by omega) (by omega) p2 q2
  have o3 : bits .or .u64 ((((f - 252) * 256 + x1) * 256 + x2) * 256) x3 = (((f - 252) * 256 + x1) * 256 + x2) * 256 + x3 := or_join _ _ (by omega) (by omega) p3 q3
  have o4 : bits .or .u64 (((((f - 252) * 256 + x1) * 256 + x2) * 256 + x3) * 256) x4 = ((((f - 252) * 256 + x1) * 256 + x2) * 256 + x3) * 256 + x4 := or_join _ _ (by omega) (by omega) p4 q4
  have o5 : bits .or .u64 ((((((f - 252) * 256 + x1) * 256 + x2) * 256 + x3) * 256 + x4) * 256) x5 = (((((f - 252) * 256 + x1) * 256 + x2) * 256 + x3) * 256 + x4) * 256 + x5 := or_join _ _ (by omega) (by omega) p5 q5
  have o6 : bits .or .u64 (((((((f - 252) * 256 + x1) * 256 + x2) * 256 + x3) * 256 + x4) * 256 + x5) * 256) x6 = ((((((f - 252) * 256 + x1) * 256 + x2) * 256 + x3) * 256 + x4) * 256 + x5) * 256 + x6 := or_join _ _ (by omega) (by omega) p6 q6
  by_cases hs : sizeOf (((((((f - 252) * 256 + x1) * 256 + x2) * 256 + x3) * 256 + x4) * 256 + x5) * 256 + x6) < 7
  all_goals
    go_enter Tryz.func90, Tryz.ntmps90
    go_wp2_with fail
    refine (told_any f _ hf0 hf1).mono ?_
    rintro e w' ⟨rfl, rfl⟩
    rw [H.out]
    go_wp2_with fail
    go_quiet ((go_at_call 134; exact Calls.quiet_of_same (lead_any _ _ (by omega) (by omega))))
    go_wp2_with fail
    refine wp_loop_rounds 7 ?_
    rw [rounds_succ]
    go_wp2
    rw [rounds_succ]
    go_wp2
    rw [rounds_succ]
    go_wp2
    rw [rounds_succ]
    go_wp2
    rw [rounds_succ]
    go_wp2
    rw [rounds_succ]
    go_wp2
    rw [rounds_succ]
    go_wp2_with fail
    refine (size_any (((((((f - 252) * 256 + x1) * 256 + x2) * 256 + x3) * 256 + x4) * 256 + x5) * 256 + x6) _ (by omega) (by omega)).mono ?_
    rintro e w2 ⟨rfl, rfl⟩
    go_wp2
    go_ret3
  · exact ⟨GetEnd.bad hs, _, rfl⟩
  · exact ⟨GetEnd.good (by omega), _, rfl⟩
set_option maxHeartbeats 1000000 in
theorem get8 (f : Int) (x1 x2 x3 x4 x5 x6 x7 : Int) (b off len cap : Nat) (w : World) (hlen : 8 ≤ len) (hcap : len ≤ cap) (hm : cap ≤ maxLen) (hf0 : 0 ≤ f) (hf1 : f ≤ 255) (ht : toldOf f = 8) (hlo : 254 ≤ f) (hhi : f ≤ 254)
    (p1 : 0 ≤ x1) (q1 : x1 ≤ 255) (p2 : 0 ≤ x2) (q2 : x2 ≤ 255) (p3 : 0 ≤ x3) (q3 : x3 ≤ 255) (p4 : 0 ≤ x4) (q4 : x4 ≤ 255) (p5 : 0 ≤ x5) (q5 : x5 ≤ 255) (p6 : 0 ≤ x6) (q6 : x6 ≤ 255) (p7 : 0 ≤ x7) (q7 : x7 ≤ 255) (c0 : w.cell? ⟨b, off, none⟩ = some (.int .u8 f)) (c1 : w.cell? ⟨b, off + 1, none⟩ = some (.int .u8 x1)) (c2 : w.cell? ⟨b, off + 2, none⟩ = some (.int .u8 x2)) (c3 : w.cell? ⟨b, off + 3, none⟩ = some (.int .u8 x3)) (c4 : w.cell? ⟨b, off + 4, none⟩ = some (.int .u8 x4)) (c5 : w.cell? ⟨b, off + 5, none⟩ = some (.int .u8 x5)) (c6 : w.cell? ⟨b, off + 6, none⟩ = some (.int .u8 x6)) (c7 : w.cell? ⟨b, off + 7, none⟩ = some (.int .u8 x7)) :
    Calls Tryz.prog 90 #[.slice (some ⟨b, off, none⟩) len cap] w fun e w' => GetEnd ((((((((f - 254) * 256 + x1) * 256 + x2) * 256 + x3) * 256 + x4) * 256 + x5) * 256 + x6) * 256 + x7) 8 e ∧ ∃ d, w' = w.drewN d := by
  have H : Hid (toldOf f = 8) := ht
  have hl : leadOf 8 = 254 := by decide +kernel
  have ha : bits .andNot .u8 f 254 = f - 254 := by rw [andNot_lead f 8 254 hf0 hf1 ht hl]
  clear ht
  unfold maxLen at hm
  have hne : ((len : Int) == 0) = false := by simp; omega
  have hge : ¬ (len : Int) < 8 := by omega
  have o1 : bits .or .u64 ((f - 254) * 256) x1 = (f - 254) * 256 + x1 := or_join _ _ (by omega) (by omega) p1 q1
  have o2 : bits .or .u64 (((f - 254) * 256 + x1) * 256) x2 = ((f - 254) * 256 + x1) * 256 + x2 := or_join _ _ (by omega) (by omega) p2 q2
  have o3 : bits .or .u64 ((((f - 254) * 256 + x1) * 256 + x2) * 256) x3 = (((f - 254) * 256 + x1) * 256 + x2) * 256 + x3 := or_join _ _ (by omega) (by omega) p3 q3
  have o4 : bits .or .u64 (((((f - 254) * 256 + x1) * 256 + x2) * 256 + x3) * 256) x4 = ((((f - 254) * 256 + x1) * 256 + x2) * 256 + x3) * 256 + x4 := or_join _ _ (by omega) (by omega) p4 q4
  have o5 : bits .or .u64 ((((((f - 254) * 256 + x1) * 256 + x2) * 256 + x3) * 256 + x4) * 256) x5 = (((((f - 254) * 256 + x1) * 256 + x2) * 256 + x3) * 256 + x4) * 256 + x5 := or_join _ _ (by omega) (by omega) p5 q5
  have o6 : bits .or .u64 (((((((f - 254) * 256 + x1) * 256 + x2) * 256 + x3) * 256 + x4) * 256 + x5) * 256) x6 = ((((((f - 254) * 256 + x1) * 256 + x2) * 256 + x3) * 256 + x4) * 256 + x5) * 256 + x6 := or_join _ _ (by omega) (by omega) p6 q6
  have o7 : bits .or .u64 ((((((((f - 254) * 256 + x1) * 256 + x2) * 256 + x3) * 256 + x4) * 256 + x5) * 256 + x6) * 256) x7 = (((((((f - 254) * 256 + x1) * 256 + x2) * 256 + x3) * 256 + x4) * 256 + x5) * 256 + x6) * 256 + x7 := or_join _ _ (by omega) (by omega) p7 q7
  by_cases hs : sizeOf ((((((((f - 254) * 256 + x1) * 256 + x2) * 256 + x3) * 256 + x4) * 256 + x5) * 256 + x6) * 256 + x7) < 8
  all_goals
    go_enter Tryz.func90, Tryz.ntmps90
    go_wp2_with fail
    refine (told_any f _ hf0 hf1).mono ?_
    rintro e w' ⟨rfl, rfl⟩
    rw [H.out]
    go_wp2_with fail
    go_quiet ((go_at_call 134; exact Calls.quiet_of_same (lead_any _ _ (by omega) (by omega))))
    go_wp2_with fail
    refine wp_loop_rounds 8 ?_
    rw [rounds_succ]
    go_wp2
    rw [rounds_succ]
    go_wp2
    rw [rounds_succ]
    go_wp2
    rw [rounds_succ]
    go_wp2
    rw [rounds_succ]
    go_wp2
    rw [rounds_succ]
    go_wp2
    rw [rounds_succ]
    go_wp2
    rw [rounds_succ]
    go_wp2_with fail
    refine (size_any ((((((((f - 254) * 256 + x1) * 256 + x2) * 256 + x3) * 256 + x4) * 256 + x5) * 256 + x6) * 256 + x7) _ (by omega) (by omega)).mono ?_
    rintro e w2 ⟨rfl, rfl⟩
    go_wp2
    go_ret3
  · exact ⟨GetEnd.bad hs, _, rfl⟩
  · exact ⟨GetEnd.good (by omega), _, rfl⟩
set_option maxHeartbeats 1000000 in
theorem get9 (f : Int) (x1 x2 x3 x4 x5 x6 x7 x8 : Int) (b off len cap : Nat) (w : World) (hlen : 9 ≤ len) (hcap : len ≤ cap) (hm : cap ≤ maxLen) (hf0 : 0 ≤ f) (hf1 : f ≤ 255) (ht : toldOf f = 9) (hlo : 255 ≤ f) (hhi : f ≤ 255)
    (p1 : 0 ≤ x1) (q1 : x1 ≤ 255) (p2 : 0 ≤ x2) (q2 : x2 ≤ 255) (p3 : 0 ≤ x3) (q3 : x3 ≤ 255) (p4 : 0 ≤ x4) (q4 : x4 ≤ 255) (p5 : 0 ≤ x5) (q5 : x5 ≤ 255) (p6 : 0 ≤ x6) (q6 : x6 ≤ 255) (p7 : 0 ≤ x7) (q7 : x7 ≤ 255) (p8 : 0 ≤ x8) (q8 : x8 ≤ 255) (c0 : w.cell? ⟨b, off, none⟩ = some (.int .u8 f)) (c1 : w.cell? ⟨b, off + 1, none⟩ = some (.int .u8 x1)) (c2 : w.cell? ⟨b, off + 2, none⟩ = some (.int .u8 x2)) (c3 : w.cell? ⟨b, off + 3, none⟩ = some (.int .u8 x3)) (c4 : w.cell? ⟨b, off + 4, none⟩ = some (.int .u8 x4)) (c5 : w.cell? ⟨b, off + 5, none⟩ = some (.int .u8 x5)) (c6 : w.cell? ⟨b, off + 6, none⟩ = some (.int .u8 x6)) (c7 : w.cell? ⟨b, off + 7, none⟩ = some (.int .u8 x7)) (c8 : w.cell? ⟨b, off + 8, none⟩ = some (.int .u8 x8)) :
    Calls Tryz.prog 90 #[.slice (some ⟨b, off, none⟩) len cap] w fun e w' => GetEnd (((((((((f - 255) * 256 + x1) * 256 + x2) * 256 + x3) * 256 + x4) * 256 + x5) * 256 + x6) * 256 + x7) * 256 + x8) 9 e ∧ ∃ d, w' = w.drewN d := by
  have H : Hid (toldOf f = 9) := ht
  have hl : leadOf 9 = 255 := by decide +kernel
  have ha : bits .andNot .u8 f 255 = f - 255 := by rw [andNot_lead f 9 255 hf0 hf1 ht hl]
  clear ht
  unfold maxLen at hm
  have hne : ((len : Int) == 0) = false := by simp; omega
  have hge : ¬ (len : Int) < 9 := by omega
  have o1 : bits .or .u64 ((f - 255) * 256) x1 = (f - 255) * 256 + x1 := or_join _ _ (by omega) (by omega) p1 q1
  have o2 : bits .or .u64 (((f - 255) * 256 + x1) * 256) x2 = ((f - 255) * 256 + x1) * 256 + x2 := or_join _ _ (by omega) (by omega) p2 q2
  have o3 : bits .or .u64 ((((f - 255) * 256 + x1) * 256 + x2) * 256) x3 = (((f - 255) * 256 + x1) * 256 + x2) * 256 + x3 := or_join _ _ (by omega) (by omega) p3 q3
  have o4 : bits .or .u64 (((((f - 255) * 256 + x1) * 256 + x2) * 256 + x3) * 256) x4 = ((((f - 255) * 256 + x1) * 256 + x2) * 256 + x3) * 256 + x4 := or_join _ _ (by omega) (by omega) p4 q4
  have o5 : bits .or .u64 ((((((f - 255) * 256 + x1) * 256 + x2) * 256 + x3) * 256 + x4) * 256) x5 = (((((f - 255) * 256 + x1) * 256 + x2) * 256 + x3) * 256 + x4) * 256 + x5 := or_join _ _ (by omega) (by omega) p5 q5
  have o6 : bits .or .u64 (((((((f - 255) * 256 + x1) * 256 + x2) * 256 + x3) * 256 + x4) * 256 + x5) * 256) x6 = ((((((f - 255) * 256 + x1) * 256 + x2) * 256 + x3) * 256 + x4) * 256 + x5) * 256 + x6 := or_join _ _ (by omega) (by omega) p6 q6
  have o7 : bits .or .u64 ((((((((f - 255) * 256 + x1) * 256 + x2) * 256 + x3) * 256 + x4) * 256 + x5) * 256 + x6) * 256) x7 = (((((((f - 255) * 256 + x1) * 256 + x2) * 256 + x3) * 256 + x4) * 256 + x5) * 256 + x6) * 256 + x7 := or_join _ _ (by omega) (by omega) p7 q7
  have o8 : bits .or .u64 (((((((((f - 255) * 256 + x1) * 256 + x2) * 256 + x3) * 256 + x4) * 256 + x5) * 256 + x6) * 256 + x7) * 256) x8 = ((((((((f - 255) * 256 + x1) * 256 + x2) * 256 + x3) * 256 + x4) * 256 + x5) * 256 + x6) * 256 + x7) * 256 + x8 := or_join _ _ (by omega) (by omega) p8 q8
  by_cases hs : sizeOf (((((((((f - 255) * 256 + x1) * 256 + x2) * 256 + x3) * 256 + x4) * 256 + x5) * 256 + x6) * 256 + x7) * 256 + x8) < 9
  all_goals
    go_enter Tryz.func90, Tryz.ntmps90
    go_wp2_with fail
    refine (told_any f _ hf0 hf1).mono ?_
    rintro e w' ⟨rfl, rfl⟩
    rw [H.out]
    go_wp2_with fail
    go_quiet ((go_at_call 134; exact Calls.quiet_of_same (lead_any _ _ (by omega) (by omega))))
    go_wp2_with fail
    refine wp_loop_rounds 9 ?_
    rw [rounds_succ]
    go_wp2
    rw [rounds_succ]
    go_wp2
    rw [rounds_succ]
    go_wp2
    rw [rounds_succ]
    go_wp2
    rw [rounds_succ]
    go_wp2
    rw [rounds_succ]
    go_wp2
    rw [rounds_succ]
    go_wp2
    rw [rounds_succ]
    go_wp2
    rw [rounds_succ]
    go_wp2_with fail
    refine (size_any (((((((((f - 255) * 256 + x1) * 256 + x2) * 256 + x3) * 256 + x4) * 256 + x5) * 256 + x6) * 256 + x7) * 256 + x8) _ (by omega) (by omega)).mono ?_
    rintro e w2 ⟨rfl, rfl⟩
    go_wp2
    go_ret3
  · exact ⟨GetEnd.bad hs, _, rfl⟩
  · exact ⟨GetEnd.good (by omega), _, rfl⟩
end Go.Proofs.YtnchjlimkgbfpaaGreatDoor
