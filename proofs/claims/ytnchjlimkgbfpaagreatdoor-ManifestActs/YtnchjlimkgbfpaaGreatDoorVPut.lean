
import Derived.Test.YtnchjlimkgbfpaaGreatDoorVLay
namespace Go.Proofs.YtnchjlimkgbfpaaGreatDoor
open Go.RowKit
set_option maxHeartbeats 400000 in
theorem put1 (n : Int) (w : World) (h0 : 0 ≤ n) (h1 : n ≤ 127) (hs : sizeOf n = 1) :
    Calls Tryz.prog 76 #[.int .u64 n] w fun e w' => ∃ v, e = .returned v ∧ w'.ownsRow w.heap.size 5 1 v 1 ((octs n 1).map (Value.int .u8)) ∧ Below w.heap.size w w' := by
  have H : Hid (sizeOf n = 1) := hs
  clear hs
  obtain ⟨i0, hi, hz0, hz1, hz2⟩ := info_parts Tryz.info5
  go_enter Tryz.func76, Tryz.ntmps76
  go_wp2_with fail
  refine (size_any n _ h0 (by omega)).mono ?_
  rintro e w' ⟨rfl, rfl⟩
  rw [H.out]
  go_wp2_with fail
  refine (lay1 n _ h0 h1).mono ?_
  rintro e w1 ⟨rfl, hb⟩
  go_wp2_with (at_builtin; refine wpList_append_own _ rfl _ _ 88 rfl w'.heap.size 5 i0 (.int .u8 0) 1 1 Tryz.underlying88 hi hz0 hz1 hz2 rfl (by decide) _ _ _ rfl (World.ownsRow_nil _ _ _ _) ⟨w1.heap.size, 0, none⟩ 1 9 ((octs n 1).map (Value.int .u8)) rfl rfl ?c1 ?c2 ?c3 ?c4 ?c5 ?_)
  case c1 =>
    intro j u hj
    exact cells_new w1 ((octs n 1).map (Value.int .u8)) [.int .u8 0, .int .u8 0, .int .u8 0, .int .u8 0, .int .u8 0, .int .u8 0, .int .u8 0, .int .u8 0] 210 j u hj
  case c2 => exact one_u8 _
  case c3 => unfold maxLen; omega
  case c4 => omega
  case c5 => have := hb.size; simp; omega
  intro v' w3 hown hgrow _
  go_wp2
  go_ret
  refine ⟨_, rfl, hown, ?_⟩
  exact (hb.alloc hb.size _).grown hgrow (by have := hb.size; simp; omega) (by simp [Value.ownBlock])
set_option maxHeartbeats 400000 in
theorem put2 (n : Int) (w : World) (h0 : 0 ≤ n) (h1 : n ≤ 16383) (hs : sizeOf n = 2) :
    Calls Tryz.prog 76 #[.int .u64 n] w fun e w' => ∃ v, e = .returned v ∧ w'.ownsRow w.heap.size 5 1 v 2 ((octs n 2).map (Value.int .u8)) ∧ Below w.heap.size w w' := by
  have H : Hid (sizeOf n = 2) := hs
  clear hs
  obtain ⟨i0, hi, hz0, hz1, hz2⟩ := info_parts Tryz.info5
  go_enter Tryz.func76, Tryz.ntmps76
  go_wp2_with fail
  refine (size_any n _ h0 (by omega)).mono ?_
  rintro e w' ⟨rfl, rfl⟩
  rw [H.out]
  go_wp2_with fail
  refine (lay2 n _ h0 h1).mono ?_
  rintro e w1 ⟨rfl, hb⟩
  go_wp2_with (at_builtin; refine wpList_append_own _ rfl _ _ 88 rfl w'.heap.size 5 i0 (.int .u8 0) 1 1 Tryz.underlying88 hi hz0 hz1 hz2 rfl (by decide) _ _ _ rfl (World.ownsRow_nil _ _ _ _) ⟨w1.heap.size, 0, none⟩ 2 9 ((octs n 2).map (Value.int .u8)) rfl rfl ?c1 ?c2 ?c3 ?c4 ?c5 ?_)
  case c1 =>
    intro j u hj
    exact cells_new w1 ((octs n 2).map (Value.int .u8)) [.int .u8 0, .int .u8 0, .int .u8 0, .int .u8 0, .int .u8 0, .int .u8 0, .int .u8 0] 210 j u hj
  case c2 => exact one_u8 _
  case c3 => unfold maxLen; omega
  case c4 => omega
  case c5 => have := hb.size; simp; omega
  intro v' w3 hown hgrow _
  go_wp2
  go_ret
  refine ⟨_, rfl, hown, ?_⟩
  exact (hb.alloc hb.size _).grown hgrow (by have := hb.size; simp; omega) (by simp [Value.ownBlock])
set_option maxHeartbeats 400000 in
theorem put3 (n : Int) (w : World) (h0 : 0 ≤ n) (h1 : n ≤ 2097151) (hs : sizeOf n = 3) :
    Calls Tryz.prog 76 #[.int .u64 n] w fun e w' => ∃ v, e = .returned v ∧ w'.ownsRow w.heap.size 5 1 v 3 ((octs n 3).map (Value.int .u8)) ∧ Below w.heap.size w w' := by
  have H : Hid (sizeOf n = 3) := hs
  clear hs
  obtain ⟨i0, hi, hz0, hz1, hz2⟩ := info_parts Tryz.info5
  go_enter Tryz.func76, Tryz.ntmps76
  go_wp2_with fail
  refine (size_any n _ h0 (by omega)).mono ?_
  rintro e w' ⟨rfl, rfl⟩
  rw [H.out]
  go_wp2_with fail
  refine (lay3 n _ h0 h1).mono ?_
  rintro e w1 ⟨rfl, hb⟩
  go_wp2_with (at_builtin; refine wpList_append_own _ rfl _ _ 88 rfl w'.heap.size 5 i0 (.int .u8 0) 1 1 Tryz.underlying88 hi hz0 hz1 hz2 rfl (by decide) _ _ _ rfl (World.ownsRow_nil _ _ _ _) ⟨w1.heap.size, 0, none⟩ 3 9 ((octs n 3).map (Value.int .u8)) rfl rfl ?c1 ?c2 ?c3 ?c4 ?c5 ?_)
  case c1 =>
    intro j u hj
    exact cells_new w1 ((octs n 3).map (Value.int .u8)) [.int .u8 0, .int .u8 0, .int .u8 0, .int .u8 0, .int .u8 0, .int .u8 0] 210 j u hj
  case c2 => exact one_u8 _
  case c3 => unfold maxLen; omega
  case c4 => omega
  case c5 => have := hb.size; simp; omega
  intro v' w3 hown hgrow _
  go_wp2
  go_ret
  refine ⟨_, rfl, hown, ?_⟩
  exact (hb.alloc hb.size _).grown hgrow (by have := hb.size; simp; omega) (by simp [Value.ownBlock])
set_option maxHeartbeats 400000 in
theorem put4 (n : Int) (w : World) (h0 : 0 ≤ n) (h1 : n ≤ 268435455) (hs : sizeOf n = 4) :
    Calls Tryz.prog 76 #[.int .u64 n] w fun e w' => ∃ v, e = .returned v ∧ w'.ownsRow w.heap.size 5 1 v 4 ((octs n 4).map (Value.int .u8)) ∧ Below w.heap.size w w' := by
  have H : Hid (sizeOf n = 4) := hs
  clear hs
  obtain ⟨i0, hi, hz0, hz1, hz2⟩ := info_parts Tryz.info5
  go_enter Tryz.func76, Tryz.ntmps76
  go_wp2_with fail
  refine (size_any n _ h0 (by omega)).mono ?_
  rintro e w' ⟨rfl, rfl⟩
  rw [H.out]
  go_wp2_with fail
  refine (lay4 n _ h0 h1).mono ?_
  rintro e w1 ⟨rfl, hb⟩
  go_wp2_with (at_builtin; refine wpList_append_own _ rfl _ _ 88 rfl w'.heap.size 5 i0 (.int .u8 0) 1 1 Tryz.underlying88 hi hz0 hz1 hz2 rfl (by decide) _ _ _ rfl (World.ownsRow_nil _ _ _ _) ⟨w1.heap.size, 0, none⟩ 4 9 ((octs n 4).map (Value.int .u8)) rfl rfl ?c1 ?c2 ?c3 ?c4 ?c5 ?_)
  case c1 =>
    intro j u hj
    exact cells_new w1 ((octs n 4).map (Value.int .u8)) [.int .u8 0, .int .u8 0, .int .u8 0, .int .u8 0, .int .u8 0] 210 j u hj
  case c2 => exact one_u8 _
  case c3 => unfold maxLen; omega
  case c4 => omega
  case c5 => have := hb.size; simp; omega
  intro v' w3 hown hgrow _
  go_wp2
  go_ret
  refine ⟨_, rfl, hown, ?_⟩
  exact (hb.alloc hb.size _).grown hgrow (by have := hb.size; simp; omega) (by simp [Value.ownBlock])
set_option maxHeartbeats 400000 in
theorem put5 (n : Int) (w : World) (h0 : 0 ≤ n) (h1 : n ≤ 34359738367) (hs : sizeOf n = 5) :
    Calls Tryz.prog 76 #[.int .u64 n] w fun e w' => ∃ v, e = .returned v ∧ w'.ownsRow w.heap.size 5 1 v 5 ((octs n 5).map (Value.int .u8)) ∧ Below w.heap.size w w' := by
  have H : Hid (sizeOf n = 5) := hs
  clear hs
  obtain ⟨i0, hi, hz0, hz1, hz2⟩ := info_parts Tryz.info5
  go_enter Tryz.func76, Tryz.ntmps76
  go_wp2_with fail
  refine (size_any n _ h0 (by omega)).mono ?_
  rintro e w' ⟨rfl, rfl⟩
  rw [H.out]
  go_wp2_with fail
  refine (lay5 n _ h0 h1).mono ?_
  rintro e w1 ⟨rfl, hb⟩
  go_wp2_with (at_builtin; refine wpList_append_own _ rfl _ _ 88 rfl w'.heap.size 5 i0 (.int .u8 0) 1 1 Tryz.underlying88 hi hz0 hz1 hz2 rfl (by decide) _ _ _ rfl (World.ownsRow_nil _ _ _ _) ⟨w1.heap.size, 0, none⟩ 5 9 ((octs n 5).map (Value.int .u8)) rfl rfl ?c1 ?c2 ?c3 ?c4 ?c5 ?_)
  case c1 =>
    intro j u hj
    exact cells_new w1 ((octs n 5).map (Value.int .u8)) [.int .u8 0, .int .u8 0, .int .u8 0, .int .u8 0] 210 j u hj
  case c2 => exact one_u8 _
  case c3 => unfold maxLen; omega
  case c4 => omega
  case c5 => have := hb.size; simp; omega
  intro v' w3 hown hgrow _
  go_wp2
  go_ret
  refine ⟨_, rfl, hown, ?_⟩
  exact (hb.alloc hb.size _).grown hgrow (by have := hb.size; simp; omega) (by simp [Value.ownBlock])
set_option maxHeartbeats 400000 in
theorem put6 (n : Int) (w : World) (h0 : 0 ≤ n) (h1 : n ≤ 4398046511103) (hs : sizeOf n = 6) :
    Calls Tryz.prog 76 #[.int .u64 n] w fun e w' => ∃ v, e = .returned v ∧ w'.ownsRow w.heap.size 5 1 v 6 ((octs n 6).map (Value.int .u8)) ∧ Below w.heap.size w w' := by
  have H : Hid (sizeOf n = 6) := hs
  clear hs
  obtain ⟨i0, hi, hz0, hz1, hz2⟩ := info_parts Tryz.info5
  go_enter Tryz.func76, Tryz.ntmps76
  go_wp2_with fail
  refine (size_any n _ h0 (by omega)).mono ?_
  rintro e w' ⟨rfl, rfl⟩
  rw [H.out]
  go_wp2_with fail
  refine (lay6 n _ h0 h1).mono ?_
  rintro e w1 ⟨rfl, hb⟩
  go_wp2_with (at_builtin; refine wpList_append_own _ rfl _ _ 88 rfl w'.heap.size 5 i0 (.int .u8 0) 1 1 Tryz.underlying88 hi hz0 hz1 hz2 rfl (by decide) _ _ _ rfl (World.ownsRow_nil _ _ _ _) ⟨w1.heap.size, 0, none⟩ 6 9 ((octs n 6).map (Value.int .u8)) rfl rfl ?c1 ?c2 ?c3 ?c4 ?c5 ?_)
  case c1 =>
    intro j u hj
    exact cells_new w1 ((octs n 6).map (Value.int .u8)) [.int .u8 0, .int .u8 0, .int .u8 0] 210 j u hj
  case c2 => exact one_u8 _
  case c3 => unfold maxLen; omega
  case c4 => omega
  case c5 => have := hb.size; simp; omega
  intro v' w3 hown hgrow _
  go_wp2
  go_ret
  refine ⟨_, rfl, hown, ?_⟩
  exact (hb.alloc hb.size _).grown hgrow (by have := hb.size; simp; omega) (by simp [Value.ownBlock])
set_option maxHeartbeats 400000 in
theorem put7 (n : Int) (w : World) (h0 : 0 ≤ n) (h1 : n ≤ 562949953421311) (hs : sizeOf n = 7) :
    Calls Tryz.prog 76 #[.int .u64 n] w fun e w' => ∃ v, e = .returned v ∧ w'.ownsRow w.heap.size 5 1 v 7 ((octs n 7).map (Value.int .u8)) ∧ Below w.heap.size w w' := by
  have H : Hid (sizeOf n = 7) := hs
  clear hs
  obtain ⟨i0, hi, hz0, hz1, hz2⟩ := info_parts Tryz.info5
  go_enter Tryz.func76, Tryz.ntmps76
  go_wp2_with fail
  refine (size_any n _ h0 (by omega)).mono ?_
  rintro e w' ⟨rfl, rfl⟩
  rw [H.out]
  go_wp2_with fail
  refine (lay7 n _ h0 h1).mono ?_
  rintro e w1 ⟨rfl, hb⟩
  go_wp2_with (at_builtin; refine wpList_append_own _ rfl _ _ 88 rfl w'.heap.size 5 i0 (.int .u8 0) 1 1 Tryz.underlying88 hi hz0 hz1 hz2 rfl (by decide) _ _ _ rfl (World.ownsRow_nil _ _ _ _) ⟨w1.heap.size, 0, none⟩ 7 9 ((octs n 7).map (Value.int .u8)) rfl rfl ?c1 ?c2 ?c3 ?c4 ?c5 ?_)
  case c1 =>
    intro j u hj
    exact cells_new w1 ((octs n 7).map (Value.int .u8)) [.int .u8 0, .int .u8 0] 210 j u hj
  case c2 => exact one_u8 _
  case c3 => unfold maxLen; omega
  case c4 => omega
  case c5 => have := hb.size; simp; omega
  intro v' w3 hown hgrow _
  go_wp2
  go_ret
  refine ⟨_, rfl, hown, ?_⟩
  exact (hb.alloc hb.size _).grown hgrow (by have := hb.size; simp; omega) (by simp [Value.ownBlock])
set_option maxHeartbeats 400000 in
theorem put8 (n : Int) (w : World) (h0 : 0 ≤ n) (h1 : n ≤ 72057594037927935) (hs : sizeOf n = 8) :
    Calls Tryz.prog 76 #[.int .u64 n] w fun e w' => ∃ v, e = .returned v ∧ w'.ownsRow w.heap.size 5 1 v 8 ((octs n 8).map (Value.int .u8)) ∧ Below w.heap.size w w' := by
  have H : Hid (sizeOf n = 8) := hs
  clear hs
  obtain ⟨i0, hi, hz0, hz1, hz2⟩ := info_parts Tryz.info5
  go_enter Tryz.func76, Tryz.ntmps76
  go_wp2_with fail
  refine (size_any n _ h0 (by omega)).mono ?_
  rintro e w' ⟨rfl, rfl⟩
  rw [H.out]
  go_wp2_with fail
  refine (lay8 n _ h0 h1).mono ?_
  rintro e w1 ⟨rfl, hb⟩
  go_wp2_with (at_builtin; refine wpList_append_own _ rfl _ _ 88 rfl w'.heap.size 5 i0 (.int .u8 0) 1 1 Tryz.underlying88 hi hz0 hz1 hz2 rfl (by decide) _ _ _ rfl (World.ownsRow_nil _ _ _ _) ⟨w1.heap.size, 0, none⟩ 8 9 ((octs n 8).map (Value.int .u8)) rfl rfl ?c1 ?c2 ?c3 ?c4 ?c5 ?_)
  case c1 =>
    intro j u hj
    exact cells_new w1 ((octs n 8).map (Value.int .u8)) [.int .u8 0] 210 j u hj
  case c2 => exact one_u8 _
  case c3 => unfold maxLen; omega
  case c4 => omega
  case c5 => have := hb.size; simp; omega
  intro v' w3 hown hgrow _
  go_wp2
  go_ret
  refine ⟨_, rfl, hown, ?_⟩
  exact (hb.alloc hb.size _).grown hgrow (by have := hb.size; simp; omega) (by simp [Value.ownBlock])
set_option maxHeartbeats 400000 in
theorem put9 (n : Int) (w : World) (h0 : 0 ≤ n) (h1 : n ≤ 18446744073709551615) (hs : sizeOf n = 9) :
    Calls Tryz.prog 76 #[.int .u64 n] w fun e w' => ∃ v, e = .returned v ∧ w'.ownsRow w.heap.size 5 1 v 9 ((octs n 9).map (Value.int .u8)) ∧ Below w.heap.size w w' := by
  have H : Hid (sizeOf n = 9) := hs
  clear hs
  obtain ⟨i0, hi, hz0, hz1, hz2⟩ := info_parts Tryz.info5
  go_enter Tryz.func76, Tryz.ntmps76
  go_wp2_with fail
  refine (size_any n _ h0 (by omega)).mono ?_
  rintro e w' ⟨rfl, rfl⟩
  rw [H.out]
  go_wp2_with fail
  refine (lay9 n _ h0 h1).mono ?_
  rintro e w1 ⟨rfl, hb⟩
  go_wp2_with (at_builtin; refine wpList_append_own _ rfl _ _ 88 rfl w'.heap.size 5 i0 (.int .u8 0) 1 1 Tryz.underlying88 hi hz0 hz1 hz2 rfl (by decide) _ _ _ rfl (World.ownsRow_nil _ _ _ _) ⟨w1.heap.size, 0, none⟩ 9 9 ((octs n 9).map (Value.int .u8)) rfl rfl ?c1 ?c2 ?c3 ?c4 ?c5 ?_)
  case c1 =>
    intro j u hj
    exact cells_new w1 ((octs n 9).map (Value.int .u8)) [] 210 j u hj
  case c2 => exact one_u8 _
  case c3 => unfold maxLen; omega
  case c4 => omega
  case c5 => have := hb.size; simp; omega
  intro v' w3 hown hgrow _
  go_wp2
  go_ret
  refine ⟨_, rfl, hown, ?_⟩
  exact (hb.alloc hb.size _).grown hgrow (by have := hb.size; simp; omega) (by simp [Value.ownBlock])
theorem bl_up (n : Int) (b : Nat) (h0 : 0 ≤ n) (h : n < 2 ^ b) : bl n ≤ b := by
  unfold bl bitLen
  split
  · omega
  · rename_i hn
    have hx : n.toNat < 2 ^ b := by
      have : ((2 ^ b : Nat) : Int) = 2 ^ b := by simp
      omega
    have := (Nat.log2_lt hn).2 hx
    omega
theorem bl_down (n : Int) (b : Nat) (h : (2 : Int) ^ b ≤ n) : (b : Int) + 1 ≤ bl n := by
  have e : ((2 ^ b : Nat) : Int) = 2 ^ b := by simp
  have hp : 0 < 2 ^ b := Nat.two_pow_pos b
  have hn : n.toNat ≠ 0 := by omega
  have hx : 2 ^ b ≤ n.toNat := by omega
  have := (Nat.le_log2 hn).2 hx
  unfold bl bitLen
  rw [if_neg hn]
  omega
theorem size_cases (n : Int) (h0 : 0 ≤ n) (h1 : n ≤ 18446744073709551615) :
    (sizeOf n = 1 ∧ 0 ≤ n ∧ n ≤ 127) ∨ (sizeOf n = 2 ∧ 128 ≤ n ∧ n ≤ 16383) ∨ (sizeOf n = 3 ∧ 16384 ≤ n ∧ n ≤ 2097151) ∨ (sizeOf n = 4 ∧ 2097152 ≤ n ∧ n ≤ 268435455) ∨ (sizeOf n = 5 ∧ 268435456 ≤ n ∧ n ≤ 34359738367) ∨ (sizeOf n = 6 ∧ 34359738368 ≤ n ∧ n ≤ 4398046511103) ∨ (sizeOf n = 7 ∧ 4398046511104 ≤ n ∧ n ≤ 562949953421311) ∨ (sizeOf n = 8 ∧ 562949953421312 ≤ n ∧ n ≤ 72057594037927935) ∨ (sizeOf n = 9 ∧ 72057594037927936 ≤ n ∧ n ≤ 18446744073709551615) := by
  have b0 := bl_nonneg n
  have b64 := bl_le64 n h0 h1
  by_cases c1 : n < 128
  · have u := bl_up n 7 h0 (by show n < 128; exact c1); exact .inl ⟨by unfold sizeOf; omega, by omega, by omega⟩
  by_cases c2 : n < 16384
  · have u := bl_up n 14 h0 (by show n < 16384; exact c2); have d := bl_down n 7 (by show 128 ≤ n; omega); exact .inr (.inl ⟨by unfold sizeOf; omega, by omega, by omega⟩)
  by_cases c3 : n < 2097152
  · have u := bl_up n 21 h0 (by show n < 2097152; exact c3); have d := bl_down n 14 (by show 16384 ≤ n; omega); exact .inr (.inr (.inl ⟨by unfold sizeOf; omega, by omega, by omega⟩))
  by_cases c4 : n < 268435456
  · have u := bl_up n 28 h0 (by show n < 268435456; exact c4); have d := bl_down n 21 (by show 2097152 ≤ n; omega); exact .inr (.inr (.inr (.inl ⟨by unfold sizeOf; omega, by omega, by omega⟩)))
  by_cases c5 : n < 34359738368
  · have u := bl_up n 35 h0 (by show n < 34359738368; exact c5); have d := bl_down n 28 (by show 268435456 ≤ n; omega); exact .inr (.inr (.inr (.inr (.inl ⟨by unfold sizeOf; omega, by omega, by omega⟩))))
  by_cases c6 : n < 4398046511104
  · have u := bl_up n 42 h0 (by show n < 4398046511104; exact c6); have d := bl_down n 35 (by show 34359738368 ≤ n; omega); exact .inr (.inr (.inr (.inr (.inr (.inl ⟨by unfold sizeOf; omega, by omega, by omega⟩)))))
  by_cases c7 : n < 562949953421312
  · have u := bl_up n 49 h0 (by show n < 562949953421312; exact c7); have d := bl_down n 42 (by show 4398046511104 ≤ n; omega); exact .inr (.inr (.inr (.inr (.inr (.inr (.inl ⟨by unfold sizeOf; omega, by omega, by omega⟩))))))
  by_cases c8 : n < 72057594037927936
  · have u := bl_up n 56 h0 (by show n < 72057594037927936; exact c8); have d := bl_down n 49 (by show 562949953421312 ≤ n; omega); exact .inr (.inr (.inr (.inr (.inr (.inr (.inr (.inl ⟨by unfold sizeOf; omega, by omega, by omega⟩)))))))
  have d := bl_down n 56 (by show 72057594037927936 ≤ n; omega)
  exact .inr (.inr (.inr (.inr (.inr (.inr (.inr (.inr (⟨by unfold sizeOf; omega, by omega, by omega⟩))))))))
theorem size_bd (n : Int) : 1 ≤ sizeOf n ∧ sizeOf n ≤ 9 := by
  unfold sizeOf; omega
def octets (n : Int) : List Int := octs n (sizeOf n).toNat
theorem put_any (n : Int) (w : World) (h0 : 0 ≤ n) (h1 : n ≤ 18446744073709551615) :
    Calls Tryz.prog 76 #[.int .u64 n] w fun e w' => ∃ v, e = .returned v ∧ w'.ownsRow w.heap.size 5 1 v (octets n).length ((octets n).map (Value.int .u8)) ∧ Below w.heap.size w w' := by
  have hc := size_cases n h0 h1
  rcases hc with ⟨hs, ha, hb⟩ | ⟨hs, ha, hb⟩ | ⟨hs, ha, hb⟩ | ⟨hs, ha, hb⟩ | ⟨hs, ha, hb⟩ | ⟨hs, ha, hb⟩ | ⟨hs, ha, hb⟩ | ⟨hs, ha, hb⟩ | ⟨hs, ha, hb⟩
  · have e : octets n = octs n 1 := by unfold octets; rw [hs]; rfl
    rw [e]; exact put1 n w h0 hb hs
  · have e : octets n = octs n 2 := by unfold octets; rw [hs]; rfl
    rw [e]; exact put2 n w h0 hb hs
  · have e : octets n = octs n 3 := by unfold octets; rw [hs]; rfl
    rw [e]; exact put3 n w h0 hb hs
  · have e : octets n = octs n 4 := by unfold octets; rw [hs]; rfl
    rw [e]; exact put4 n w h0 hb hs
  · have e : octets n = octs n 5 := by unfold octets; rw [hs]; rfl
    rw [e]; exact put5 n w h0 hb hs
  · have e : octets n = octs n 6 := by unfold octets; rw [hs]; rfl
    rw [e]; exact put6 n w h0 hb hs
  · have e : octets n = octs n 7 := by unfold octets; rw [hs]; rfl
    rw [e]; exact put7 n w h0 hb hs
  · have e : octets n = octs n 8 := by unfold octets; rw [hs]; rfl
    rw [e]; exact put8 n w h0 hb hs
  · have e : octets n = octs n 9 := by unfold octets; rw [hs]; rfl
    rw [e]; exact put9 n w h0 hb hs
end Go.Proofs.YtnchjlimkgbfpaaGreatDoor
