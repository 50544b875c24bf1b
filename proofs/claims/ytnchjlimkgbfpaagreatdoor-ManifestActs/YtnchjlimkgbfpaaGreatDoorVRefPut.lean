
import Derived.Test.YtnchjlimkgbfpaaGreatDoorVRef
import Derived.BigRegion
namespace Go.Proofs.YtnchjlimkgbfpaaGreatDoor
open Go.RowKit
set_option linter.unusedVariables false
set_option maxRecDepth 20000
theorem OwnB.made (w : World) (l : List Int) (hm : l.length ≤ maxLen) : OwnB (w.alloc (.cells (l.map (Value.int .u8)).toArray 5)) w.heap.size (.slice (some ⟨w.heap.size, 0, none⟩) l.length l.length) l := by
  refine ⟨by simp, .inr ⟨w.heap.size, l.length, (l.map (Value.int .u8)).toArray, rfl, Nat.le_refl _, ?_, Nat.le_refl _, hm, by simp, ?_⟩⟩
  · show (w.heap.push _)[w.heap.size]? = _
    simp
  · rw [Nat.mul_one]
    exact List.take_of_length_le (by simp)
theorem or_bit_table : ∀ i : Fin 8, ∀ x : Fin 256, x.val / 2 ^ (7 - i.val) % 2 = 0 → bits .or .u8 (x.val : Int) ((128 / 2 ^ i.val : Nat) : Int) = (x.val : Int) + ((128 / 2 ^ i.val : Nat) : Int) := by decide +kernel
theorem or_bit (i : Nat) (x m y : Int) (hi : i < 8) (h0 : 0 ≤ x) (h1 : x ≤ 255) (hm : ((128 / 2 ^ i : Nat) : Int) = m) (hb : x.toNat / 2 ^ (7 - i) % 2 = 0) (hy : x + m = y) : bits .or .u8 x m = y := by
  have h := or_bit_table ⟨i, hi⟩ ⟨x.toNat, by omega⟩ hb
  have e : ((x.toNat : Nat) : Int) = x := by omega
  have h' : bits .or .u8 ((x.toNat : Nat) : Int) ((128 / 2 ^ i : Nat) : Int) = ((x.toNat : Nat) : Int) + ((128 / 2 ^ i : Nat) : Int) := h
  rw [e, hm] at h'
  rw [h', hy]
set_option maxHeartbeats 1000000 in
theorem refPut1 (n : Int) (w : World) (h0 : 0 ≤ n) (h1 : n ≤ 127) (hs : sizeOf n = 1) :
    Calls Tryz.prog 83 #[.int .u64 n] w fun e w' => ∃ v, e = .returned v ∧ OwnB w' w.heap.size v (octs n 1) ∧ Below w.heap.size w w' := by
  have H : Hid (sizeOf n = 1) := hs
  have E : Hid (([n] : List Int) = octs n 1) := by
    unfold Hid
    show ([n] : List Int) = [n]
    rfl
  have HB : Hid (∀ x ∈ octs n 1, 0 ≤ x ∧ x ≤ 255) := by
    have F := (octets_form n h0 (by omega)).octet
    have e : octets n = octs n 1 := by unfold octets; rw [hs]; rfl
    rw [e] at F
    exact F
  clear hs
  have hmk : ∀ w, (Instr.makeSlice 88 (.int .i64 1) (.int .i64 1)).run Tryz.prog w = .ok (.slice (some ⟨w.heap.size, 0, none⟩) 1 1) (w.alloc (.cells #[.int .u8 0] 5)) := fun _ => by kernel_rfl
  go_enter Tryz.func83, Tryz.ntmps83
  go_wp2_with fail
  refine (refSize_any n _ h0 (by omega)).mono ?_
  rintro e w' ⟨rfl, rfl⟩
  rw [H.out]
  go_wp2
  refine wp_loop_rounds 2 ?_
  rw [rounds_succ]
  go_wp2
  rw [rounds_succ]
  go_wp2
  refine wp_loop_rounds 1 ?_
  rw [rounds_succ]
  go_wp2
  go_ret
  refine ⟨_, rfl, ?_, ?_⟩
  · rw [← E.out]
    exact own_up (OwnB.made w' [n] (by unfold maxLen; simp)) ⟨rfl, rfl, rfl, Nat.le_refl _, fun _ _ => rfl⟩
  · exact up_trans (up_alloc w' _) ⟨rfl, rfl, rfl, Nat.le_refl _, fun _ _ => rfl⟩
set_option maxHeartbeats 1000000 in
theorem refPut2 (n : Int) (w : World) (h0 : 0 ≤ n) (h1 : n ≤ 16383) (hs : sizeOf n = 2) :
    Calls Tryz.prog 83 #[.int .u64 n] w fun e w' => ∃ v, e = .returned v ∧ OwnB w' w.heap.size v (octs n 2) ∧ Below w.heap.size w w' := by
  have H : Hid (sizeOf n = 2) := hs
  have E : Hid (([128 + n / 256, n % 256] : List Int) = octs n 2) := by
    unfold Hid
    show ([128 + n / 256, n % 256] : List Int) = [128 + n / 256, n % 256]
    rfl
  have HB : Hid (∀ x ∈ octs n 2, 0 ≤ x ∧ x ≤ 255) := by
    have F := (octets_form n h0 (by omega)).octet
    have e : octets n = octs n 2 := by unfold octets; rw [hs]; rfl
    rw [e] at F
    exact F
  clear hs
  have o0 : bits .or .u8 (n / 256) 128 = 128 + n / 256 := or_bit 0 _ _ _ (by decide) (by omega) (by omega) rfl (by show (n / 256).toNat / 128 % 2 = 0; omega) (by omega)
  have hmk : ∀ w, (Instr.makeSlice 88 (.int .i64 2) (.int .i64 2)).run Tryz.prog w = .ok (.slice (some ⟨w.heap.size, 0, none⟩) 2 2) (w.alloc (.cells #[.int .u8 0, .int .u8 0] 5)) := fun _ => by kernel_rfl
  go_enter Tryz.func83, Tryz.ntmps83
  go_wp2_with fail
  refine (refSize_any n _ h0 (by omega)).mono ?_
  rintro e w' ⟨rfl, rfl⟩
  rw [H.out]
  go_wp2
  refine wp_loop_rounds 3 ?_
  rw [rounds_succ]
  go_wp2
  rw [rounds_succ]
  go_wp2
  rw [rounds_succ]
  go_wp2
  refine wp_loop_rounds 2 ?_
  rw [rounds_succ]
  go_wp2
  go_region
  go_wp2
  rw [rounds_succ]
  go_wp2
  go_ret
  refine ⟨_, rfl, ?_, ?_⟩
  · rw [← E.out]
    exact own_up (OwnB.made w' [128 + n / 256, n % 256] (by unfold maxLen; simp)) ⟨rfl, rfl, rfl, Nat.le_refl _, fun _ _ => rfl⟩
  · exact up_trans (up_alloc w' _) ⟨rfl, rfl, rfl, Nat.le_refl _, fun _ _ => rfl⟩
set_option maxHeartbeats 1000000 in
theorem refPut3 (n : Int) (w : World) (h0 : 0 ≤ n) (h1 : n ≤ 2097151) (hs : sizeOf n = 3) :
    Calls Tryz.prog 83 #[.int .u64 n] w fun e w' => ∃ v, e = .returned v ∧ OwnB w' w.heap.size v (octs n 3) ∧ Below w.heap.size w w' := by
  have H : Hid (sizeOf n = 3) := hs
  have E : Hid (([192 + n / 256 / 256, n / 256 % 256, n % 256] : List Int) = octs n 3) := by
    unfold Hid
    show ([192 + n / 256 / 256, n / 256 % 256, n % 256] : List Int) = [192 + n / 65536, n / 256 % 256, n % 256]
    rw [show 192 + n / 256 / 256 = 192 + n / 65536 by omega]
  have HB : Hid (∀ x ∈ octs n 3, 0 ≤ x ∧ x ≤ 255) := by
    have F := (octets_form n h0 (by omega)).octet
    have e : octets n = octs n 3 := by unfold octets; rw [hs]; rfl
    rw [e] at F
    exact F
  clear hs
  have o0 : bits .or .u8 (n / 256 / 256) 128 = 128 + n / 256 / 256 := or_bit 0 _ _ _ (by decide) (by omega) (by omega) rfl (by show (n / 256 / 256).toNat / 128 % 2 = 0; omega) (by omega)
  have o1 : bits .or .u8 (128 + n / 256 / 256) 64 = 192 + n / 256 / 256 := or_bit 1 _ _ _ (by decide) (by omega) (by omega) rfl (by show (128 + n / 256 / 256).toNat / 64 % 2 = 0; omega) (by omega)
  have hmk : ∀ w, (Instr.makeSlice 88 (.int .i64 3) (.int .i64 3)).run Tryz.prog w = .ok (.slice (some ⟨w.heap.size, 0, none⟩) 3 3) (w.alloc (.cells #[.int .u8 0, .int .u8 0, .int .u8 0] 5)) := fun _ => by kernel_rfl
  go_enter Tryz.func83, Tryz.ntmps83
  go_wp2_with fail
  refine (refSize_any n _ h0 (by omega)).mono ?_
  rintro e w' ⟨rfl, rfl⟩
  rw [H.out]
  go_wp2
  refine wp_loop_rounds 4 ?_
  rw [rounds_succ]
  go_wp2
  rw [rounds_succ]
  go_wp2
  rw [rounds_succ]
  go_wp2
  rw [rounds_succ]
  go_wp2
  refine wp_loop_rounds 3 ?_
  rw [rounds_succ]
  go_wp2
  go_region
  go_wp2
  rw [rounds_succ]
  go_wp2
  go_region
  go_wp2
  rw [rounds_succ]
  go_wp2
  go_ret
  refine ⟨_, rfl, ?_, ?_⟩
  · rw [← E.out]
    exact own_up (OwnB.made w' [192 + n / 256 / 256, n / 256 % 256, n % 256] (by unfold maxLen; simp)) ⟨rfl, rfl, rfl, Nat.le_refl _, fun _ _ => rfl⟩
  · exact up_trans (up_alloc w' _) ⟨rfl, rfl, rfl, Nat.le_refl _, fun _ _ => rfl⟩
set_option maxHeartbeats 1000000 in
theorem refPut4 (n : Int) (w : World) (h0 : 0 ≤ n) (h1 : n ≤ 268435455) (hs : sizeOf n = 4) :
    Calls Tryz.prog 83 #[.int .u64 n] w fun e w' => ∃ v, e = .returned v ∧ OwnB w' w.heap.size v (octs n 4) ∧ Below w.heap.size w w' := by
  have H : Hid (sizeOf n = 4) := hs
  have E : Hid (([224 + n / 256 / 256 / 256, n / 256 / 256 % 256, n / 256 % 256, n % 256] : List Int) = octs n 4) := by
    unfold Hid
    show ([224 + n / 256 / 256 / 256, n / 256 / 256 % 256, n / 256 % 256, n % 256] : List Int) = [224 + n / 16777216, n / 65536 % 256, n / 256 % 256, n % 256]
    rw [show 224 + n / 256 / 256 / 256 = 224 + n / 16777216 by omega, show n / 256 / 256 % 256 = n / 65536 % 256 by omega]
  have HB : Hid (∀ x ∈ octs n 4, 0 ≤ x ∧ x ≤ 255) := by
    have F := (octets_form n h0 (by omega)).octet
    have e : octets n = octs n 4 := by unfold octets; rw [hs]; rfl
    rw [e] at F
    exact F
  clear hs
  have o0 : bits .or .u8 (n / 256 / 256 / 256) 128 = 128 + n / 256 / 256 / 256 := or_bit 0 _ _ _ (by decide) (by omega) (by omega) rfl (by show (n / 256 / 256 / 256).toNat / 128 % 2 = 0; omega) (by omega)
  have o1 : bits .or .u8 (128 + n / 256 / 256 / 256) 64 = 192 + n / 256 / 256 / 256 := or_bit 1 _ _ _ (by decide) (by omega) (by omega) rfl (by show (128 + n / 256 / 256 / 256).toNat / 64 % 2 = 0; omega) (by omega)
  have o2 : bits .or .u8 (192 + n / 256 / 256 / 256) 32 = 224 + n / 256 / 256 / 256 := or_bit 2 _ _ _ (by decide) (by omega) (by omega) rfl (by show (192 + n / 256 / 256 / 256).toNat / 32 % 2 = 0; omega) (by omega)
  have hmk : ∀ w, (Instr.makeSlice 88 (.int .i64 4) (.int .i64 4)).run Tryz.prog w = .ok (.slice (some ⟨w.heap.size, 0, none⟩) 4 4) (w.alloc (.cells #[.int .u8 0, .int .u8 0, .int .u8 0, .int .u8 0] 5)) := fun _ => by kernel_rfl
  go_enter Tryz.func83, Tryz.ntmps83
  go_wp2_with fail
  refine (refSize_any n _ h0 (by omega)).mono ?_
  rintro e w' ⟨rfl, rfl⟩
  rw [H.out]
  go_wp2
  refine wp_loop_rounds 5 ?_
  rw [rounds_succ]
  go_wp2
  rw [rounds_succ]
  go_wp2
  rw [rounds_succ]
  go_wp2
  rw [rounds_succ]
  go_wp2
  rw [rounds_succ]
  go_wp2
  refine wp_loop_rounds 4 ?_
  rw [rounds_succ]
  go_wp2
  go_region
  go_wp2
  rw [rounds_succ]
  go_wp2
  go_region
  go_wp2
  rw [rounds_succ]
  go_wp2
  go_region
  go_wp2
  rw [rounds_succ]
  go_wp2
  go_ret
  refine ⟨_, rfl, ?_, ?_⟩
  · rw [← E.out]
    exact own_up (OwnB.made w' [224 + n / 256 / 256 / 256, n / 256 / 256 % 256, n / 256 % 256, n % 256] (by unfold maxLen; simp)) ⟨rfl, rfl, rfl, Nat.le_refl _, fun _ _ => rfl⟩
  · exact up_trans (up_alloc w' _) ⟨rfl, rfl, rfl, Nat.le_refl _, fun _ _ => rfl⟩
set_option maxHeartbeats 1000000 in
theorem refPut5 (n : Int) (w : World) (h0 : 0 ≤ n) (h1 : n ≤ 34359738367) (hs : sizeOf n = 5) :
    Calls Tryz.prog 83 #[.int .u64 n] w fun e w' => ∃ v, e = .returned v ∧ OwnB w' w.heap.size v (octs n 5) ∧ Below w.heap.size w w' := by
  have H : Hid (sizeOf n = 5) := hs
  have E : Hid (([240 + n / 256 / 256 / 256 / 256, n / 256 / 256 / 256 % 256, n / 256 / 256 % 256, n / 256 % 256, n % 256] : List Int) = octs n 5) := by
    unfold Hid
    show ([240 + n / 256 / 256 / 256 / 256, n / 256 / 256 / 256 % 256, n / 256 / 256 % 256, n / 256 % 256, n % 256] : List Int) = [240 + n / 4294967296, n / 16777216 % 256, n / 65536 % 256, n / 256 % 256, n % 256]
    rw [show 240 + n / 256 / 256 / 256 / 256 = 240 + n / 4294967296 by omega, show n / 256 / 256 / 256 % 256 = n / 16777216 % 256 by omega, show n / 256 / 256 % 256 = n / 65536 % 256 by omega]
  have HB : Hid (∀ x ∈ octs n 5, 0 ≤ x ∧ x ≤ 255) := by
    have F := (octets_form n h0 (by omega)).octet
    have e : octets n = octs n 5 := by unfold octets; rw [hs]; rfl
    rw [e] at F
    exact F
  clear hs
  have o0 : bits .or .u8 (n / 256 / 256 / 256 / 256) 128 = 128 + n / 256 / 256 / 256 / 256 := or_bit 0 _ _ _ (by decide) (by omega) (by omega) rfl (by show (n / 256 / 256 / 256 / 256).toNat / 128 % 2 = 0; omega) (by omega)
  have o1 : bits .or .u8 (128 + n / 256 / 256 / 256 / 256) 64 = 192 + n / 256 / 256 / 256 / 256 := or_bit 1 _ _ _ (by decide) (by omega) (by omega) rfl (by show (128 + n / 256 / 256 / 256 / 256).toNat / 64 % 2 = 0; omega) (by omega)
  have o2 : bits .or .u8 (192 + n / 256 / 256 / 256 / 256) 32 = 224 + n / 256 / 256 / 256 / 256 := or_bit 2 _ _ _ (by decide) (by omega) (by omega) rfl (by show (192 + n / 256 / 256 / 256 / 256).toNat / 32 % 2 = 0; omega) (by omega)
  have o3 : bits .or .u8 (224 + n / 256 / 256 / 256 / 256) 16 = 240 + n / 256 / 256 / 256 / 256 := or_bit 3 _ _ _ (by decide) (by omega) (by omega) rfl (by show (224 + n / 256 / 256 / 256 / 256).toNat / 16 % 2 = 0; omega) (by omega)
  have hmk : ∀ w, (Instr.makeSlice 88 (.int .i64 5) (.int .i64 5)).run Tryz.prog w = .ok (.slice (some ⟨w.heap.size, 0, none⟩) 5 5) (w.alloc (.cells #[.int .u8 0, .int .u8 0, .int .u8 0, .int .u8 0, .int .u8 0] 5)) := fun _ => by kernel_rfl
  go_enter Tryz.func83, Tryz.ntmps83
  go_wp2_with fail
  refine (refSize_any n _ h0 (by omega)).mono ?_
  rintro e w' ⟨rfl, rfl⟩
  rw [H.out]
  go_wp2
  refine wp_loop_rounds 6 ?_
  rw [rounds_succ]
  go_wp2
  rw [rounds_succ]
  go_wp2
  rw [rounds_succ]
  go_wp2
  rw [rounds_succ]
  go_wp2
  rw [rounds_succ]
  go_wp2
  rw [rounds_succ]
  go_wp2
  refine wp_loop_rounds 5 ?_
  rw [rounds_succ]
  go_wp2
  go_region
  go_wp2
  rw [rounds_succ]
  go_wp2
  go_region
  go_wp2
  rw [rounds_succ]
  go_wp2
  go_region
  go_wp2
  rw [rounds_succ]
  go_wp2
  go_region
  go_wp2
  rw [rounds_succ]
  go_wp2
  go_ret
  refine ⟨_, rfl, ?_, ?_⟩
  · rw [← E.out]
    exact own_up (OwnB.made w' [240 + n / 256 / 256 / 256 / 256, n / 256 / 256 / 256 % 256, n / 256 / 256 % 256, n / 256 % 256, n % 256] (by unfold maxLen; simp)) ⟨rfl, rfl, rfl, Nat.le_refl _, fun _ _ => rfl⟩
  · exact up_trans (up_alloc w' _) ⟨rfl, rfl, rfl, Nat.le_refl _, fun _ _ => rfl⟩
set_option maxHeartbeats 1000000 in
theorem refPut6 (n : Int) (w : World) (h0 : 0 ≤ n) (h1 : n ≤ 4398046511103) (hs : sizeOf n = 6) :
    Calls Tryz.prog 83 #[.int .u64 n] w fun e w' => ∃ v, e = .returned v ∧ OwnB w' w.heap.size v (octs n 6) ∧ Below w.heap.size w w' := by
  have H : Hid (sizeOf n = 6) := hs
  have E : Hid (([248 + n / 256 / 256 / 256 / 256 / 256, n / 256 / 256 / 256 / 256 % 256, n / 256 / 256 / 256 % 256, n / 256 / 256 % 256, n / 256 % 256, n % 256] : List Int) = octs n 6) := by
    unfold Hid
    show ([248 + n / 256 / 256 / 256 / 256 / 256, n / 256 / 256 / 256 / 256 % 256, n / 256 / 256 / 256 % 256, n / 256 / 256 % 256, n / 256 % 256, n % 256] : List Int) = [248 + n / 1099511627776, n / 4294967296 % 256, n / 16777216 % 256, n / 65536 % 256, n / 256 % 256, n % 256]
    rw [show 248 + n / 256 / 256 / 256 / 256 / 256 = 248 + n / 1099511627776 by omega, show n / 256 / 256 / 256 / 256 % 256 = n / 4294967296 % 256 by omega, show n / 256 / 256 / 256 % 256 = n / 16777216 % 256 by omega, show n / 256 / 256 % 256 = n / 65536 % 256 by omega]
  have HB : Hid (∀ x ∈ octs n 6, 0 ≤ x ∧ x ≤ 255) := by
    have F := (octets_form n h0 (by omega)).octet
    have e : octets n = octs n 6 := by unfold octets; rw [hs]; rfl
    rw [e] at F
    exact F
  clear hs
  have o0 : bits .or .u8 (n / 256 / 256 / 256 / 256 / 256) 128 = 128 + n / 256 / 256 / 256 / 256 / 256 := or_bit 0 _ _ _ (by decide) (by omega) (by omega) rfl (by show (n / 256 / 256 / 256 / 256 / 256).toNat / 128 % 2 = 0; omega) (by omega)
  have o1 : bits .or .u8 (128 + n / 256 / 256 / 256 / 256 / 256) 64 = 192 + n / 256 / 256 / 256 / 256 / 256 := or_bit 1 _ _ _ (by decide) (by omega) (by omega) rfl (by show (128 + n / 256 / 256 / 256 / 256 / 256).toNat / 64 % 2 = 0; omega) (by omega)
  have o2 : bits .or .u8 (192 + n / 256 / 256 / 256 / 256 / 256) 32 = 224 + n / 256 / 256 / 256 / 256 / 256 := or_bit 2 _ _ _ (by decide) (by omega) (by omega) rfl (by show (192 + n / 256 / 256 / 256 / 256 / 256).toNat / 32 % 2 = 0; omega) (by omega)
  have o3 : bits .or .u8 (224 + n / 256 / 256 / 256 / 256 / 256) 16 = 240 + n / 256 / 256 / 256 / 256 / 256 := or_bit 3 _ _ _ (by decide) (by omega) (by omega) rfl (by show (224 + n / 256 / 256 / 256 / 256 / 256).toNat / 16 % 2 = 0; omega) (by omega)
  have o4 : bits .or .u8 (240 + n / 256 / 256 / 256 / 256 / 256) 8 = 248 + n / 256 / 256 / 256 / 256 / 256 := or_bit 4 _ _ _ (by decide) (by omega) (by omega) rfl (by show (240 + n / 256 / 256 / 256 / 256 / 256).toNat / 8 % 2 = 0; omega) (by omega)
  have hmk : ∀ w, (Instr.makeSlice 88 (.int .i64 6) (.int .i64 6)).run Tryz.prog w = .ok (.slice (some ⟨w.heap.size, 0, none⟩) 6 6) (w.alloc (.cells #[.int .u8 0, .int .u8 0, .int .u8 0, .int .u8 0, .int .u8 0, .int .u8 0] 5)) := fun _ => by kernel_rfl
  go_enter Tryz.func83, Tryz.ntmps83
  go_wp2_with fail
  refine (refSize_any n _ h0 (by omega)).mono ?_
  rintro e w' ⟨rfl, rfl⟩
  rw [H.out]
  go_wp2
  refine wp_loop_rounds 7 ?_
  rw [rounds_succ]
  go_wp2
  rw [rounds_succ]
  go_wp2
  rw [rounds_succ]
  go_wp2
  rw [rounds_succ]
  go_wp2
  rw [rounds_succ]
  go_wp2
  rw [rounds_succ]
  go_wp2
  rw [rounds_succ]
  go_wp2
  refine wp_loop_rounds 6 ?_
  rw [rounds_succ]
  go_wp2
  go_region
  go_wp2
  rw [rounds_succ]
  go_wp2
  go_region
  go_wp2
  rw [rounds_succ]
  go_wp2
  go_region
  go_wp2
  rw [rounds_succ]
  go_wp2
  go_region
  go_wp2
  rw [rounds_succ]
  go_wp2
  go_region
  go_wp2
  rw [rounds_succ]
  go_wp2
  go_ret
  refine ⟨_, rfl, ?_, ?_⟩
  · rw [← E.out]
    exact own_up (OwnB.made w' [248 + n / 256 / 256 / 256 / 256 / 256, n / 256 / 256 / 256 / 256 % 256, n / 256 / 256 / 256 % 256, n / 256 / 256 % 256, n / 256 % 256, n % 256] (by unfold maxLen; simp)) ⟨rfl, rfl, rfl, Nat.le_refl _, fun _ _ => rfl⟩
  · exact up_trans (up_alloc w' _) ⟨rfl, rfl, rfl, Nat.le_refl _, fun _ _ => rfl⟩
set_option maxHeartbeats 1000000 in
theorem refPut7 (n : Int) (w : World) (h0 : 0 ≤ n) (h1 : n ≤ 562949953421311) (hs : sizeOf n = 7) :
    Calls Tryz.prog 83 #[.int .u64 n] w fun e w' => ∃ v, e = .returned v ∧ OwnB w' w.heap.size v (octs n 7) ∧ Below w.heap.size w w' := by
  have H : Hid (sizeOf n = 7) := hs
  have E : Hid (([252 + n / 256 / 256 / 256 / 256 / 256 / 256, n / 256 / 256 / 256 / 256 / 256 % 256, n / 256 / 256 / 256 / 256 % 256, n / 256 / 256 / 256 % 256, n / 256 / 256 % 256, n / 256 % 256, n % 256] : List Int) = octs n 7) := by
    unfold Hid
    show ([252 + n / 256 / 256 / 256 / 256 / 256 / 256, n / 256 / 256 / 256 / 256 / 256 % 256, n / 256 / 256 / 256 / 256 % 256, n / 256 / 256 / 256 % 256, n / 256 / 256 % 256, n / 256 % 256, n % 256] : List Int) = [252 + n / 281474976710656, n / 1099511627776 % 256, n / 4294967296 % 256, n / 16777216 % 256, n / 65536 % 256, n / 256 % 256, n % 256]
    rw [show 252 + n / 256 / 256 / 256 / 256 / 256 / 256 = 252 + n / 281474976710656 by omega, show n / 256 / 256 / 256 / 256 / 256 % 256 = n / 1099511627776 % 256 by omega, show n / 256 / 256 / 256 / 256 % 256 = n / 4294967296 % 256 by omega, show n / 256 / 256 / 256 % 256 = n / 16777216 % 256 by omega, show n / 256 / 256 % 256 = n / 65536 % 256 by omega]
  have HB : Hid (∀ x ∈ octs n 7, 0 ≤ x ∧ x ≤ 255) := by
    have F := (octets_form n h0 (by omega)).octet
    have e : octets n = octs n 7 := by unfold octets; rw [hs]; rfl
    rw [e] at F
    exact F
  clear hs
  have o0 : bits .or .u8 (n / 256 / 256 / 256 / 256 / 256 / 256) 128 = 128 + n / 256 / 256 / 256 / 256 / 256 / 256 := or_bit 0 _ _ _ (by decide) (by omega) (by omega) rfl (by show (n / 256 / 256 / 256 / 256 / 256 / 256).toNat / 128 % 2 = 0; omega) (by omega)
  have o1 : bits .or .u8 (128 + n / 256 / 256 / 256 / 256 / 256 / 256) 64 = 192 + n / 256 / 256 / 256 / 256 / 256 / 256 := or_bit 1 _ _ _ (by decide) (by omega) (by omega) rfl (by show (128 + n / 256 / 256 / 256 / 256 / 256 / 256).toNat / 64 % 2 = 0; omega) (by omega)
  have o2 : bits .or .u8 (192 + n / 256 / 256 / 256 / 256 / 256 / 256) 32 = 224 + n / 256 / 256 / 256 / 256 / 256 / 256 := or_bit 2 _ _ _ (by decide) (by omega) (by omega) rfl (by show (192 + n / 256 / 256 / 256 / 256 / 256 / 256).toNat / 32 % 2 = 0; omega) (by omega)
  have o3 : bits .or .u8 (224 + n / 256 / 256 / 256 / 256 / 256 / 256) 16 = 240 + n / 256 / 256 / 256 / 256 / 256 / 256 := or_bit 3 _ _ _ (by decide) (by omega) (by omega) rfl (by show (224 + n / 256 / 256 / 256 / 256 / 256 / 256).toNat / 16 % 2 = 0; omega) (by omega)
  have o4 : bits .or .u8 (240 + n / 256 / 256 / 256 / 256 / 256 / 256) 8 = 248 + n / 256 / 256 / 256 / 256 / 256 / 256 := or_bit 4 _ _ _ (by decide) (by omega) (by omega) rfl (by show (240 + n / 256 / 256 / 256 / 256 / 256 / 256).toNat / 8 % 2 = 0; omega) (by omega)
  have o5 : bits .or .u8 (248 + n / 256 / 256 / 256 / 256 / 256 / 256) 4 = 252 + n / 256 / 256 / 256 / 256 / 256 / 256 := or_bit 5 _ _ _ (by decide) (by omega) (by omega) rfl (by show (248 + n / 256 / 256 / 256 / 256 / 256 / 256).toNat / 4 % 2 = 0; omega) (by omega)
  have hmk : ∀ w, (Instr.makeSlice 88 (.int .i64 7) (.int .i64 7)).run Tryz.prog w = .ok (.slice (some ⟨w.heap.size, 0, none⟩) 7 7) (w.alloc (.cells #[.int .u8 0, .int .u8 0, .int .u8 0, .int .u8 0, .int .u8 0, .int .u8 0, .int .u8 0] 5)) := fun _ => by kernel_rfl
  go_enter Tryz.func83, Tryz.ntmps83
  go_wp2_with fail
  refine (refSize_any n _ h0 (by omega)).mono ?_
  rintro e w' ⟨rfl, rfl⟩
  rw [H.out]
  go_wp2
  refine wp_loop_rounds 8 ?_
  rw [rounds_succ]
  go_wp2
  rw [rounds_succ]
  go_wp2
  rw [rounds_succ]
  go_wp2
  rw [rounds_succ]
  go_wp2
  rw [rounds_succ]
  go_wp2
  rw [rounds_succ]
  go_wp2
  rw [rounds_succ]
  go_wp2
  rw [rounds_succ]
  go_wp2
  refine wp_loop_rounds 7 ?_
  rw [rounds_succ]
  go_wp2
  go_region
  go_wp2
  rw [rounds_succ]
  go_wp2
  go_region
  go_wp2
  rw [rounds_succ]
  go_wp2
  go_region
  go_wp2
  rw [rounds_succ]
  go_wp2
  go_region
  go_wp2
  rw [rounds_succ]
  go_wp2
  go_region
  go_wp2
  rw [rounds_succ]
  go_wp2
  go_region
  go_wp2
  rw [rounds_succ]
  go_wp2
  go_ret
  refine ⟨_, rfl, ?_, ?_⟩
  · rw [← E.out]
    exact own_up (OwnB.made w' [252 + n / 256 / 256 / 256 / 256 / 256 / 256, n / 256 / 256 / 256 / 256 / 256 % 256, n / 256 / 256 / 256 / 256 % 256, n / 256 / 256 / 256 % 256, n / 256 / 256 % 256, n / 256 % 256, n % 256] (by unfold maxLen; simp)) ⟨rfl, rfl, rfl, Nat.le_refl _, fun _ _ => rfl⟩
  · exact up_trans (up_alloc w' _) ⟨rfl, rfl, rfl, Nat.le_refl _, fun _ _ => rfl⟩
set_option maxHeartbeats 1000000 in
theorem refPut8 (n : Int) (w : World) (h0 : 0 ≤ n) (h1 : n ≤ 72057594037927935) (hs : sizeOf n = 8) :
    Calls Tryz.prog 83 #[.int .u64 n] w fun e w' => ∃ v, e = .returned v ∧ OwnB w' w.heap.size v (octs n 8) ∧ Below w.heap.size w w' := by
  have H : Hid (sizeOf n = 8) := hs
  have E : Hid (([254 + n / 256 / 256 / 256 / 256 / 256 / 256 / 256, n / 256 / 256 / 256 / 256 / 256 / 256, n / 256 / 256 / 256 / 256 / 256 % 256, n / 256 / 256 / 256 / 256 % 256, n / 256 / 256 / 256 % 256, n / 256 / 256 % 256, n / 256 % 256, n % 256] : List Int) = octs n 8) := by
    unfold Hid
    show ([254 + n / 256 / 256 / 256 / 256 / 256 / 256 / 256, n / 256 / 256 / 256 / 256 / 256 / 256, n / 256 / 256 / 256 / 256 / 256 % 256, n / 256 / 256 / 256 / 256 % 256, n / 256 / 256 / 256 % 256, n / 256 / 256 % 256, n / 256 % 256, n % 256] : List Int) = [254 + n / 72057594037927936, n / 281474976710656 % 256, n / 1099511627776 % 256, n / 4294967296 % 256, n / 16777216 % 256, n / 65536 % 256, n / 256 % 256, n % 256]
    rw [show 254 + n / 256 / 256 / 256 / 256 / 256 / 256 / 256 = 254 + n / 72057594037927936 by omega, show n / 256 / 256 / 256 / 256 / 256 / 256 = n / 281474976710656 % 256 by omega, show n / 256 / 256 / 256 / 256 / 256 % 256 = n / 1099511627776 % 256 by omega, show n / 256 / 256 / 256 / 256 % 256 = n / 4294967296 % 256 by omega, show n / 256 / 256 / 256 % 256 = n / 16777216 % 256 by omega, show n / 256 / 256 % 256 = n / 65536 % 256 by omega]
  have HB : Hid (∀ x ∈ octs n 8, 0 ≤ x ∧ x ≤ 255) := by
    have F := (octets_form n h0 (by omega)).octet
    have e : octets n = octs n 8 := by unfold octets; rw [hs]; rfl
    rw [e] at F
    exact F
  clear hs
  have o0 : bits .or .u8 (n / 256 / 256 / 256 / 256 / 256 / 256 / 256) 128 = 128 + n / 256 / 256 / 256 / 256 / 256 / 256 / 256 := or_bit 0 _ _ _ (by decide) (by omega) (by omega) rfl (by show (n / 256 / 256 / 256 / 256 / 256 / 256 / 256).toNat / 128 % 2 = 0; omega) (by omega)
  have o1 : bits .or .u8 (128 + n / 256 / 256 / 256 / 256 / 256 / 256 / 256) 64 = 192 + n / 256 / 256 / 256 / 256 / 256 / 256 / 256 := or_bit 1 _ _ _ (by decide) (by omega) (by omega) rfl (by show (128 + n / 256 / 256 / 256 / 256 / 256 / 256 / 256).toNat / 64 % 2 = 0; omega) (by omega)
  have o2 : bits .or .u8 (192 + n / 256 / 256 / 256 / 256 / 256 / 256 / 256) 32 = 224 + n / 256 / 256 / 256 / 256 / 256 / 256 / 256 := or_bit 2 _ _ _ (by decide) (by omega) (by omega) rfl (by show (192 + n / 256 / 256 / 256 / 256 / 256 / 256 / 256).toNat / 32 % 2 = 0; omega) (by omega)
  have o3 : bits .or .u8 (224 + n / 256 / 256 / 256 / 256 / 256 / 256 / 256) 16 = 240 + n / 256 / 256 / 256 / 256 / 256 / 256 / 256 := or_bit 3 _ _ _ (by decide) (by omega) (by omega) rfl (by show (224 + n / 256 / 256 / 256 / 256 / 256 / 256 / 256).toNat / 16 % 2 = 0; omega) (by omega)
  have o4 : bits .or .u8 (240 + n / 256 / 256 / 256 / 256 / 256 / 256 / 256) 8 = 248 + n / 256 / 256 / 256 / 256 / 256 / 256 / 256 := or_bit 4 _ _ _ (by decide) (by omega) (by omega) rfl (by show (240 + n / 256 / 256 / 256 / 256 / 256 / 256 / 256).toNat / 8 % 2 = 0; omega) (by omega)
  have o5 : bits .or .u8 (248 + n / 256 / 256 / 256 / 256 / 256 / 256 / 256) 4 = 252 + n / 256 / 256 / 256 / 256 / 256 / 256 / 256 := or_bit 5 _ _ _ (by decide) (by omega) (by omega) rfl (by show (248 + n / 256 / 256 / 256 / 256 / 256 / 256 / 256).toNat / 4 % 2 = 0; omega) (by omega)
  have o6 : bits .or .u8 (252 + n / 256 / 256 / 256 / 256 / 256 / 256 / 256) 2 = 254 + n / 256 / 256 / 256 / 256 / 256 / 256 / 256 := or_bit 6 _ _ _ (by decide) (by omega) (by omega) rfl (by show (252 + n / 256 / 256 / 256 / 256 / 256 / 256 / 256).toNat / 2 % 2 = 0; omega) (by omega)
  have hmk : ∀ w, (Instr.makeSlice 88 (.int .i64 8) (.int .i64 8)).run Tryz.prog w = .ok (.slice (some ⟨w.heap.size, 0, none⟩) 8 8) (w.alloc (.cells #[.int .u8 0, .int .u8 0, .int .u8 0, .int .u8 0, .int .u8 0, .int .u8 0, .int .u8 0, .int .u8 0] 5)) := fun _ => by kernel_rfl
  go_enter Tryz.func83, Tryz.ntmps83
  go_wp2_with fail
  refine (refSize_any n _ h0 (by omega)).mono ?_
  rintro e w' ⟨rfl, rfl⟩
  rw [H.out]
  go_wp2
  refine wp_loop_rounds 9 ?_
  rw [rounds_succ]
  go_wp2
  rw [rounds_succ]
  go_wp2
  rw [rounds_succ]
  go_wp2
  rw [rounds_succ]
  go_wp2
  rw [rounds_succ]
  go_wp2
  rw [rounds_succ]
  go_wp2
  rw [rounds_succ]
  go_wp2
  rw [rounds_succ]
  go_wp2
  rw [rounds_succ]
  go_wp2
  refine wp_loop_rounds 8 ?_
  rw [rounds_succ]
  go_wp2
  go_region
  go_wp2
  rw [rounds_succ]
  go_wp2
  go_region
  go_wp2
  rw [rounds_succ]
  go_wp2
  go_region
  go_wp2
  rw [rounds_succ]
  go_wp2
  go_region
  go_wp2
  rw [rounds_succ]
  go_wp2
  go_region
  go_wp2
  rw [rounds_succ]
  go_wp2
  go_region
  go_wp2
  rw [rounds_succ]
  go_wp2
  go_region
  go_wp2
  rw [rounds_succ]
  go_wp2
  go_ret
  refine ⟨_, rfl, ?_, ?_⟩
  · rw [← E.out]
    exact own_up (OwnB.made w' [254 + n / 256 / 256 / 256 / 256 / 256 / 256 / 256, n / 256 / 256 / 256 / 256 / 256 / 256, n / 256 / 256 / 256 / 256 / 256 % 256, n / 256 / 256 / 256 / 256 % 256, n / 256 / 256 / 256 % 256, n / 256 / 256 % 256, n / 256 % 256, n % 256] (by unfold maxLen; simp)) ⟨rfl, rfl, rfl, Nat.le_refl _, fun _ _ => rfl⟩
  · exact up_trans (up_alloc w' _) ⟨rfl, rfl, rfl, Nat.le_refl _, fun _ _ => rfl⟩
set_option maxHeartbeats 1000000 in
theorem refPut9 (n : Int) (w : World) (h0 : 0 ≤ n) (h1 : n ≤ 18446744073709551615) (hs : sizeOf n = 9) :
    Calls Tryz.prog 83 #[.int .u64 n] w fun e w' => ∃ v, e = .returned v ∧ OwnB w' w.heap.size v (octs n 9) ∧ Below w.heap.size w w' := by
  have H : Hid (sizeOf n = 9) := hs
  have E : Hid (([255, n / 256 / 256 / 256 / 256 / 256 / 256 / 256, n / 256 / 256 / 256 / 256 / 256 / 256 % 256, n / 256 / 256 / 256 / 256 / 256 % 256, n / 256 / 256 / 256 / 256 % 256, n / 256 / 256 / 256 % 256, n / 256 / 256 % 256, n / 256 % 256, n % 256] : List Int) = octs n 9) := by
    unfold Hid
    show ([255, n / 256 / 256 / 256 / 256 / 256 / 256 / 256, n / 256 / 256 / 256 / 256 / 256 / 256 % 256, n / 256 / 256 / 256 / 256 / 256 % 256, n / 256 / 256 / 256 / 256 % 256, n / 256 / 256 / 256 % 256, n / 256 / 256 % 256, n / 256 % 256, n % 256] : List Int) = [255, n / 72057594037927936 % 256, n / 281474976710656 % 256, n / 1099511627776 % 256, n / 4294967296 % 256, n / 16777216 % 256, n / 65536 % 256, n / 256 % 256, n % 256]
    rw [show n / 256 / 256 / 256 / 256 / 256 / 256 / 256 = n / 72057594037927936 % 256 by omega, show n / 256 / 256 / 256 / 256 / 256 / 256 % 256 = n / 281474976710656 % 256 by omega, show n / 256 / 256 / 256 / 256 / 256 % 256 = n / 1099511627776 % 256 by omega, show n / 256 / 256 / 256 / 256 % 256 = n / 4294967296 % 256 by omega, show n / 256 / 256 / 256 % 256 = n / 16777216 % 256 by omega, show n / 256 / 256 % 256 = n / 65536 % 256 by omega]
  have HB : Hid (∀ x ∈ octs n 9, 0 ≤ x ∧ x ≤ 255) := by
    have F := (octets_form n h0 (by omega)).octet
    have e : octets n = octs n 9 := by unfold octets; rw [hs]; rfl
    rw [e] at F
    exact F
  clear hs
  have hz : n / 256 / 256 / 256 / 256 / 256 / 256 / 256 / 256 = 0 := by omega
  have o0 : bits .or .u8 0 128 = 128 := by decide +kernel
  have o1 : bits .or .u8 128 64 = 192 := by decide +kernel
  have o2 : bits .or .u8 192 32 = 224 := by decide +kernel
  have o3 : bits .or .u8 224 16 = 240 := by decide +kernel
  have o4 : bits .or .u8 240 8 = 248 := by decide +kernel
  have o5 : bits .or .u8 248 4 = 252 := by decide +kernel
  have o6 : bits .or .u8 252 2 = 254 := by decide +kernel
  have o7 : bits .or .u8 254 1 = 255 := by decide +kernel
  have hmk : ∀ w, (Instr.makeSlice 88 (.int .i64 9) (.int .i64 9)).run Tryz.prog w = .ok (.slice (some ⟨w.heap.size, 0, none⟩) 9 9) (w.alloc (.cells #[.int .u8 0, .int .u8 0, .int .u8 0, .int .u8 0, .int .u8 0, .int .u8 0, .int .u8 0, .int .u8 0, .int .u8 0] 5)) := fun _ => by kernel_rfl
  go_enter Tryz.func83, Tryz.ntmps83
  go_wp2_with fail
  refine (refSize_any n _ h0 (by omega)).mono ?_
  rintro e w' ⟨rfl, rfl⟩
  rw [H.out]
  go_wp2
  refine wp_loop_rounds 10 ?_
  rw [rounds_succ]
  go_wp2
  rw [rounds_succ]
  go_wp2
  rw [rounds_succ]
  go_wp2
  rw [rounds_succ]
  go_wp2
  rw [rounds_succ]
  go_wp2
  rw [rounds_succ]
  go_wp2
  rw [rounds_succ]
  go_wp2
  rw [rounds_succ]
  go_wp2
  rw [rounds_succ]
  go_wp2
  rw [rounds_succ]
  go_wp2
  refine wp_loop_rounds 9 ?_
  rw [rounds_succ]
  go_wp2
  go_region
  go_wp2
  rw [rounds_succ]
  go_wp2
  go_region
  go_wp2
  rw [rounds_succ]
  go_wp2
  go_region
  go_wp2
  rw [rounds_succ]
  go_wp2
  go_region
  go_wp2
  rw [rounds_succ]
  go_wp2
  go_region
  go_wp2
  rw [rounds_succ]
  go_wp2
  go_region
  go_wp2
  rw [rounds_succ]
  go_wp2
  go_region
  go_wp2
  rw [rounds_succ]
  go_wp2
  go_region
  go_wp2
  rw [rounds_succ]
  go_wp2
  go_ret
  refine ⟨_, rfl, ?_, ?_⟩
  · rw [← E.out]
    exact own_up (OwnB.made w' [255, n / 256 / 256 / 256 / 256 / 256 / 256 / 256, n / 256 / 256 / 256 / 256 / 256 / 256 % 256, n / 256 / 256 / 256 / 256 / 256 % 256, n / 256 / 256 / 256 / 256 % 256, n / 256 / 256 / 256 % 256, n / 256 / 256 % 256, n / 256 % 256, n % 256] (by unfold maxLen; simp)) ⟨rfl, rfl, rfl, Nat.le_refl _, fun _ _ => rfl⟩
  · exact up_trans (up_alloc w' _) ⟨rfl, rfl, rfl, Nat.le_refl _, fun _ _ => rfl⟩
theorem refPut_any (n : Int) (w : World) (h0 : 0 ≤ n) (h1 : n ≤ 18446744073709551615) :
    Calls Tryz.prog 83 #[.int .u64 n] w fun e w' => ∃ v, e = .returned v ∧ OwnB w' w.heap.size v (octets n) ∧ Below w.heap.size w w' := by
  rcases size_cases n h0 h1 with ⟨hs, ha, hb⟩ | ⟨hs, ha, hb⟩ | ⟨hs, ha, hb⟩ | ⟨hs, ha, hb⟩ | ⟨hs, ha, hb⟩ | ⟨hs, ha, hb⟩ | ⟨hs, ha, hb⟩ | ⟨hs, ha, hb⟩ | ⟨hs, ha, hb⟩
  · have e : octets n = octs n 1 := by unfold octets; rw [hs]; rfl
    rw [e]; exact refPut1 n w h0 hb hs
  · have e : octets n = octs n 2 := by unfold octets; rw [hs]; rfl
    rw [e]; exact refPut2 n w h0 hb hs
  · have e : octets n = octs n 3 := by unfold octets; rw [hs]; rfl
    rw [e]; exact refPut3 n w h0 hb hs
  · have e : octets n = octs n 4 := by unfold octets; rw [hs]; rfl
    rw [e]; exact refPut4 n w h0 hb hs
  · have e : octets n = octs n 5 := by unfold octets; rw [hs]; rfl
    rw [e]; exact refPut5 n w h0 hb hs
  · have e : octets n = octs n 6 := by unfold octets; rw [hs]; rfl
    rw [e]; exact refPut6 n w h0 hb hs
  · have e : octets n = octs n 7 := by unfold octets; rw [hs]; rfl
    rw [e]; exact refPut7 n w h0 hb hs
  · have e : octets n = octs n 8 := by unfold octets; rw [hs]; rfl
    rw [e]; exact refPut8 n w h0 hb hs
  · have e : octets n = octs n 9 := by unfold octets; rw [hs]; rfl
    rw [e]; exact refPut9 n w h0 hb hs
end Go.Proofs.YtnchjlimkgbfpaaGreatDoor
