/- The texts VGetAny, VMath, in this order. -/
import Derived.Test.YtnchjlimkgbfpaaGreatDoorVGet

namespace Go.Proofs.YtnchjlimkgbfpaaGreatDoor
open Go.RowKit
set_option linter.unusedVariables false
set_option maxRecDepth 20000
def getRet (l : List Int) : Value := .tuple #[.int .u64 (getOf l).1, .int .i64 (getOf l).2.1, .int .i64 (getOf l).2.2]
theorem getRet_short (f : Int) (r : List Int) (h : ((r.length : Int) + 1) < toldOf f) : getRet (f :: r) = .tuple #[.int .u64 0, .int .i64 0, .int .i64 8] := by
  simp only [getRet, getOf, if_pos h]
theorem getRet_bad (f : Int) (r : List Int) (k N : Int) (ht : toldOf f = k) (hl : ¬ ((r.length : Int) + 1) < k) (hN : acc (f - leadOf k) (r.take (k - 1).toNat) = N) (h : sizeOf N < k) : getRet (f :: r) = .tuple #[.int .u64 0, .int .i64 0, .int .i64 4] := by
  subst ht; subst hN
  simp only [getRet, getOf, if_neg hl, if_pos h]
theorem getRet_good (f : Int) (r : List Int) (k N : Int) (ht : toldOf f = k) (hl : ¬ ((r.length : Int) + 1) < k) (hN : acc (f - leadOf k) (r.take (k - 1).toNat) = N) (h : ¬ sizeOf N < k) : getRet (f :: r) = .tuple #[.int .u64 N, .int .i64 k, .int .i64 0] := by
  subst ht; subst hN
  simp only [getRet, getOf, if_neg hl, if_neg h]
theorem cons_of {r : List Int} (h : 0 < r.length) : ∃ x t, r = x :: t := by
  cases r with
  | nil => simp at h
  | cons x t => exact ⟨x, t, rfl⟩
theorem get_empty (a : Option Addr) (cap : Nat) (w : World) :
    Calls Tryz.prog 90 #[.slice a 0 cap] w fun e w' => e = .returned (.tuple #[.int .u64 0, .int .i64 0, .int .i64 8]) ∧ ∃ d, w' = w.drewN d := by
  go_enter Tryz.func90, Tryz.ntmps90
  go_wp2
  go_ret3
  exact ⟨rfl, 0, rfl⟩
theorem get_short (f k : Int) (b off len cap : Nat) (w : World) (hlen : 0 < len) (hcap : len ≤ cap) (hm : cap ≤ maxLen) (hf0 : 0 ≤ f) (hf1 : f ≤ 255) (ht : toldOf f = k) (hk : (len : Int) < k) (hk9 : k ≤ 9)
    (c0 : w.cell? ⟨b, off, none⟩ = some (.int .u8 f)) :
    Calls Tryz.prog 90 #[.slice (some ⟨b, off, none⟩) len cap] w fun e w' => e = .returned (.tuple #[.int .u64 0, .int .i64 0, .int .i64 8]) ∧ ∃ d, w' = w.drewN d := by
  have H : Hid (toldOf f = k) := ht
  clear ht
  unfold maxLen at hm
  have hne : ((len : Int) == 0) = false := by simp; omega
  go_enter Tryz.func90, Tryz.ntmps90
  go_wp2_with fail
  refine (told_any f _ hf0 hf1).mono ?_
  rintro e w' ⟨rfl, rfl⟩
  rw [H.out]
  go_wp2
  go_ret3
  exact ⟨rfl, 0, rfl⟩
theorem get_any (l : List Int) (v : Value) (w : World) (hv : Octs w v l) :
    Calls Tryz.prog 90 #[v] w fun e w' => e = .returned (getRet l) ∧ ∃ d, w' = w.drewN d := by
  obtain ⟨hx, hv⟩ := hv
  rcases hv with ⟨rfl, a, cap, rfl, _⟩ | ⟨hne, b, off, cap, rfl, hcap, hm, hc⟩
  · exact get_empty a cap w
  obtain ⟨f, r, rfl⟩ : ∃ f r, l = f :: r := cons_of (List.length_pos_iff.2 hne)
  have hf := hx f (by simp)
  have c0 : w.cell? ⟨b, off, none⟩ = some (.int .u8 f) := hc 0 f rfl
  simp only [List.length_cons] at hcap
  by_cases hsh : ((r.length : Int) + 1) < toldOf f
  · have hk9 : toldOf f ≤ 9 := by unfold toldOf; have := bl_nonneg (255 - f); omega
    rw [getRet_short f r hsh]
    exact get_short f (toldOf f) b off (r.length + 1) cap w (by omega) hcap hm hf.1 hf.2 rfl (by omega) hk9 c0
  rcases told_cases f hf.1 hf.2 with ⟨ht, hlo, hhi⟩ | ⟨ht, hlo, hhi⟩ | ⟨ht, hlo, hhi⟩ | ⟨ht, hlo, hhi⟩ | ⟨ht, hlo, hhi⟩ | ⟨ht, hlo, hhi⟩ | ⟨ht, hlo, hhi⟩ | ⟨ht, hlo, hhi⟩ | ⟨ht, hlo, hhi⟩
  · rw [ht] at hsh
    have hN : acc (f - leadOf 1) ((r).take ((1 : Int) - 1).toNat) = f := by rw [show leadOf 1 = 0 by decide +kernel]; simp [acc]
    have hl2 : 1 ≤ (r).length + 1 := by omega
    refine (get1 f  b off ((r).length + 1) cap w hl2 hcap hm hf.1 hf.2 ht hlo hhi  c0 ).mono ?_
    rintro e w' ⟨hE, hd⟩
    refine ⟨?_, hd⟩
    rcases hE with ⟨h, rfl⟩ | ⟨h, rfl⟩
    · rw [getRet_bad f (r) 1 _ ht hsh hN h]
    · rw [getRet_good f (r) 1 _ ht hsh hN h]
  · rw [ht] at hsh
    obtain ⟨x1, r1, rfl⟩ : ∃ x t, r = x :: t := cons_of (by omega)
    have hx1 := hx x1 (by simp)
    have c1 : w.cell? ⟨b, off + 1, none⟩ = some (.int .u8 x1) := hc 1 x1 rfl
    have hN : acc (f - leadOf 2) ((x1 :: r1).take ((2 : Int) - 1).toNat) = (f - 128) * 256 + x1 := by rw [show leadOf 2 = 128 by decide +kernel]; rfl
    have hl2 : 2 ≤ (x1 :: r1).length + 1 := by omega
    refine (get2 f x1 b off ((x1 :: r1).length + 1) cap w hl2 hcap hm hf.1 hf.2 ht hlo hhi hx1.1 hx1.2 c0 c1).mono ?_
    rintro e w' ⟨hE, hd⟩
    refine ⟨?_, hd⟩
    rcases hE with ⟨h, rfl⟩ | ⟨h, rfl⟩
    · rw [getRet_bad f (x1 :: r1) 2 _ ht hsh hN h]
    · rw [getRet_good f (x1 :: r1) 2 _ ht hsh hN h]
  · rw [ht] at hsh
    obtain ⟨x1, r1, rfl⟩ : ∃ x t, r = x :: t := cons_of (by omega)
    obtain ⟨x2, r2, rfl⟩ : ∃ x t, r1 = x :: t := cons_of (by simp only [List.length_cons] at hsh; omega)
    have hx1 := hx x1 (by simp)
    have c1 : w.cell? ⟨b, off + 1, none⟩ = some (.int .u8 x1) := hc 1 x1 rfl
    have hx2 := hx x2 (by simp)
    have c2 : w.cell? ⟨b, off + 2, none⟩ = some (.int .u8 x2) := hc 2 x2 rfl
    have hN : acc (f - leadOf 3) ((x1 :: x2 :: r2).take ((3 : Int) - 1).toNat) = ((f - 192) * 256 + x1) * 256 + x2 := by rw [show leadOf 3 = 192 by decide +kernel]; rfl
    have hl2 : 3 ≤ (x1 :: x2 :: r2).length + 1 := by omega
    refine (get3 f x1 x2 b off ((x1 :: x2 :: r2).length + 1) cap w hl2 hcap hm hf.1 hf.2 ht hlo hhi hx1.1 hx1.2 hx2.1 hx2.2 c0 c1 c2).mono ?_
    rintro e w' ⟨hE, hd⟩
    refine ⟨?_, hd⟩
    rcases hE with ⟨h, rfl⟩ | ⟨h, rfl⟩
    · rw [getRet_bad f (x1 :: x2 :: r2) 3 _ ht hsh hN h]
    · rw [getRet_good f (x1 :: x2 :: r2) 3 _ ht hsh hN h]
  · rw [ht] at hsh
    obtain ⟨x1, r1, rfl⟩ : ∃ x t, r = x :: t := cons_of (by omega)
    obtain ⟨x2, r2, rfl⟩ : ∃ x t, r1 = x :: t := cons_of (by simp only [List.length_cons] at hsh; omega)
    obtain ⟨x3, r3, rfl⟩ : ∃ x t, r2 = x :: t := cons_of (by simp only [List.length_cons] at hsh; omega)
    have hx1 := hx x1 (by simp)
    have c1 : w.cell? ⟨b, off + 1, none⟩ = some (.int .u8 x1) := hc 1 x1 rfl
    have hx2 := hx x2 (by simp)
    have c2 : w.cell? ⟨b, off + 2, none⟩ = some (.int .u8 x2) := hc 2 x2 rfl
    have hx3 := hx x3 (by simp)
    have c3 : w.cell? ⟨b, off + 3, none⟩ = some (.int .u8 x3) := hc 3 x3 rfl
    have hN : acc (f - leadOf 4) ((x1 :: x2 :: x3 :: r3).take ((4 : Int) - 1).toNat) = (((f - 224) * 256 + x1) * 256 + x2) * 256 + x3 := by rw [show leadOf 4 = 224 by decide +kernel]; rfl
    have hl2 : 4 ≤ (x1 :: x2 :: x3 :: r3).length + 1 := by omega
    refine (get4 f x1 x2 x3 b off ((x1 :: x2 :: x3 :: r3).length + 1) cap w hl2 hcap hm hf.1 hf.2 ht hlo hhi hx1.1 hx1.2 hx2.1 hx2.2 hx3.1 hx3.2 c0 c1 c2 c3).mono ?_
    rintro e w' ⟨hE, hd⟩
    refine ⟨?_, hd⟩
    rcases hE with ⟨h, rfl⟩ | ⟨h, rfl⟩
    · rw [getRet_bad f (x1 :: x2 :: x3 :: r3) 4 _ ht hsh hN h]
    · rw [getRet_good f (x1 :: x2 :: x3 :: r3) 4 _ ht hsh hN h]
  · rw [ht] at hsh
    obtain ⟨x1, r1, rfl⟩ : ∃ x t, r = x :: t := cons_of (by omega)
    obtain ⟨x2, r2, rfl⟩ : ∃ x t, r1 = x :: t := cons_of (by simp only [List.length_cons] at hsh; omega)
    obtain ⟨x3, r3, rfl⟩ : ∃ x t, r2 = x :: t := cons_of (by simp only [List.length_cons] at hsh; omega)
    obtain ⟨x4, r4, rfl⟩ : ∃ x t, r3 = x :: t := cons_of (by simp only [List.length_cons] at hsh; omega)
    have hx1 := hx x1 (by simp)
    have c1 : w.cell? ⟨b, off + 1, none⟩ = some (.int .u8 x1) := hc 1 x1 rfl
    have hx2 := hx x2 (by simp)
    have c2 : w.cell? ⟨b, off + 2, none⟩ = some (.int .u8 x2) := hc 2 x2 rfl
    have hx3 := hx x3 (by simp)
    have c3 : w.cell? ⟨b, off + 3, none⟩ = some (.int .u8 x3) := hc 3 x3 rfl
    have hx4 := hx x4 (by simp)
    have c4 : w.cell? ⟨b, off + 4, none⟩ = some (.int .u8 x4) := hc 4 x4 rfl
    have hN : acc (f - leadOf 5) ((x1 :: x2 :: x3 :: x4 :: r4).take ((5 : Int) - 1).toNat) = ((((f - 240) * 256 + x1) * 256 + x2) * 256 + x3) * 256 + x4 := by rw [show leadOf 5 = 240 by decide +kernel]; rfl
    have hl2 : 5 ≤ (x1 :: x2 :: x3 :: x4 :: r4).length + 1 := by omega
    refine (get5 f x1 x2 x3 x4 b off ((x1 :: x2 :: x3 :: x4 :: r4).length + 1) cap w hl2 hcap hm hf.1 hf.2 ht hlo hhi hx1.1 hx1.2 hx2.1 hx2.2 hx3.1 hx3.2 hx4.1 hx4.2 c0 c1 c2 c3 c4).mono ?_
    rintro e w' ⟨hE, hd⟩
    refine ⟨?_, hd⟩
    rcases hE with ⟨h, rfl⟩ | ⟨h, rfl⟩
    · rw [getRet_bad f (x1 :: x2 :: x3 :: x4 :: r4) 5 _ ht hsh hN h]
    · rw [getRet_good f (x1 :: x2 :: x3 :: x4 :: r4) 5 _ ht hsh hN h]
  · rw [ht] at hsh
    obtain ⟨x1, r1, rfl⟩ : ∃ x t, r = x :: t := cons_of (by omega)
    obtain ⟨x2, r2, rfl⟩ : ∃ x t, r1 = x :: t := cons_of (by simp only [List.length_cons] at hsh; omega)
    obtain ⟨x3, r3, rfl⟩ : ∃ x t, r2 = x :: t := cons_of (by simp only [List.length_cons] at hsh; omega)
    obtain ⟨x4, r4, rfl⟩ : ∃ x t, r3 = x :: t := cons_of (by simp only [List.length_cons] at hsh; omega)
    obtain ⟨x5, r5, rfl⟩ : ∃ x t, r4 = x :: t := cons_of (by simp only [List.length_cons] at hsh; omega)
    have hx1 := hx x1 (by simp)
    have c1 : w.cell? ⟨b, off + 1, none⟩ = some (.int .u8 x1) := hc 1 x1 rfl
    have hx2 := hx x2 (by simp)
    have c2 : w.cell? ⟨b, off + 2, none⟩ = some (.int .u8 x2) := hc 2 x2 rfl
    have hx3 := hx x3 (by simp)
    have c3 : w.cell? ⟨b, off + 3, none⟩ = some (.int .u8 x3) := hc 3 x3 rfl
    have hx4 := hx x4 (by simp)
    have c4 : w.cell? ⟨b, off + 4, none⟩ = some (.int .u8 x4) := hc 4 x4 rfl
    have hx5 := hx x5 (by simp)
    have c5 : w.cell? ⟨b, off + 5, none⟩ = some (.int .u8 x5) := hc 5 x5 rfl
    have hN : acc (f - leadOf 6) ((x1 :: x2 :: x3 :: x4 :: x5 :: r5).take ((6 : Int) - 1).toNat) = (((((f - 248) * 256 + x1) * 256 + x2) * 256 + x3) * 256 + x4) * 256 + x5 := by rw [show leadOf 6 = 248 by decide +kernel]; rfl
    have hl2 : 6 ≤ (x1 :: x2 :: x3 :: x4 :: x5 :: r5).length + 1 := by omega
    refine (get6 f x1 x2 x3 x4 x5 b off ((x1 :: x2 :: x3 :: x4 :: x5 :: r5).length + 1) cap w hl2 hcap hm hf.1 hf.2 ht hlo hhi hx1.1 hx1.2 hx2.1 hx2.2 hx3.1 hx3.2 hx4.1 hx4.2 hx5.1 hx5.2 c0 c1 c2 c3 c4 c5).mono ?_
    rintro e w' ⟨hE, hd⟩
    refine ⟨?_, hd⟩
    rcases hE with ⟨h, rfl⟩ | ⟨h, rfl⟩
    · rw [getRet_bad f (x1 :: x2 :: x3 :: x4 :: x5 :: r5) 6 _ ht hsh hN h]
    · rw [getRet_good f (x1 :: x2 :: x3 :: x4 :: x5 :: r5) 6 _ ht hsh hN h]
  · rw [ht] at hsh
    obtain ⟨x1, r1, rfl⟩ : ∃ x t, r = x :: t := cons_of (by omega)
    obtain ⟨x2, r2, rfl⟩ : ∃ x t, r1 = x :: t := cons_of (by simp only [List.length_cons] at hsh; omega)
    obtain ⟨x3, r3, rfl⟩ : ∃ x t, r2 = x :: t := cons_of (by simp only [List.length_cons] at hsh; omega)
    obtain ⟨x4, r4, rfl⟩ : ∃ x t, r3 = x :: t := cons_of (by simp only [List.length_cons] at hsh; omega)
    obtain ⟨x5, r5, rfl⟩ : ∃ x t, r4 = x :: t := cons_of (by simp only [List.length_cons] at hsh; omega)
    obtain ⟨x6, r6, rfl⟩ : ∃ x t, r5 = x :: t := cons_of (by simp only [List.length_cons] at hsh; omega)
    have hx1 := hx x1 (by simp)
    have c1 : w.cell? ⟨b, off + 1, none⟩ = some (.int .u8 x1) := hc 1 x1 rfl
    have hx2 := hx x2 (by simp)
    have c2 : w.cell? ⟨b, off + 2, none⟩ = some (.int .u8 x2) := hc 2 x2 rfl
    have hx3 := hx x3 (by simp)
    have c3 : w.cell? ⟨b, off + 3, none⟩ = some (.int .u8 x3) := hc 3 x3 rfl
    have hx4 := hx x4 (by simp)
    have c4 : w.cell? ⟨b, off + 4, none⟩ = some (.int .u8 x4) := hc 4 x4 rfl
    have hx5 := hx x5 (by simp)
    have c5 : w.cell? ⟨b, off + 5, none⟩ = some (.int .u8 x5) := hc 5 x5 rfl
    have hx6 := hx x6 (by simp)
    have c6 : w.cell? ⟨b, off + 6, none⟩ = some (.int .u8 x6) := hc 6 x6 rfl
    have hN : acc (f - leadOf 7) ((x1 :: x2 :: x3 :: x4 :: x5 :: x6 :: r6).take ((7 : Int) - 1).toNat) = ((((((f - 252) * 256 + x1) * 256 + x2) * 256 + x3) * 256 + x4) * 256 + x5) * 256 + x6 := by rw [show leadOf 7 = 252 by decide +kernel]; rfl
    have hl2 : 7 ≤ (x1 :: x2 :: x3 :: x4 :: x5 :: x6 :: r6).length + 1 := by omega
    refine (get7 f x1 x2 x3 x4 x5 x6 b off ((x1 :: x2 :: x3 :: x4 :: x5 :: x6 :: r6).length + 1) cap w hl2 hcap hm hf.1 hf.2 ht hlo hhi hx1.1 hx1.2 hx2.1 hx2.2 hx3.1 hx3.2 hx4.1 hx4.2 hx5.1 hx5.2 hx6.1 hx6.2 c0 c1 c2 c3 c4 c5 c6).mono ?_
    rintro e w' ⟨hE, hd⟩
    refine ⟨?_, hd⟩
    rcases hE with ⟨h, rfl⟩ | ⟨h, rfl⟩
    · rw [getRet_bad f (x1 :: x2 :: x3 :: x4 :: x5 :: x6 :: r6) 7 _ ht hsh hN h]
    · rw [getRet_good f (x1 :: x2 :: x3 :: x4 :: x5 :: x6 :: r6) 7 _ ht hsh hN h]
  · rw [ht] at hsh
    obtain ⟨x1, r1, rfl⟩ : ∃ x t, r = x :: t := cons_of (by omega)
    obtain ⟨x2, r2, rfl⟩ : ∃ x t, r1 = x :: t := cons_of (by simp only [List.length_cons] at hsh; omega)
    obtain ⟨x3, r3, rfl⟩ : ∃ x t, r2 = x :: t := cons_of (by simp only [List.length_cons] at hsh; omega)
    obtain ⟨x4, r4, rfl⟩ : ∃ x t, r3 = x :: t := cons_of (by simp only [List.length_cons] at hsh; omega)
    obtain ⟨x5, r5, rfl⟩ : ∃ x t, r4 = x :: t := cons_of (by simp only [List.length_cons] at hsh; omega)
    obtain ⟨x6, r6, rfl⟩ : ∃ x t, r5 = x :: t := cons_of (by simp only [List.length_cons] at hsh; omega)
    obtain ⟨x7, r7, rfl⟩ : ∃ x t, r6 = x :: t := cons_of (by simp only [List.length_cons] at hsh; omega)
    have hx1 := hx x1 (by simp)
    have c1 : w.cell? ⟨b, off + 1, none⟩ = some (.int .u8 x1) := hc 1 x1 rfl
    have hx2 := hx x2 (by simp)
    have c2 : w.cell? ⟨b, off + 2, none⟩ = some (.int .u8 x2) := hc 2 x2 rfl
    have hx3 := hx x3 (by simp)
    have c3 : w.cell? ⟨b, off + 3, none⟩ = some (.int .u8 x3) := hc 3 x3 rfl
    have hx4 := hx x4 (by simp)
    have c4 : w.cell? ⟨b, off + 4, none⟩ = some (.int .u8 x4) := hc 4 x4 rfl
    have hx5 := hx x5 (by simp)
    have c5 : w.cell? ⟨b, off + 5, none⟩ = some (.int .u8 x5) := hc 5 x5 rfl
    have hx6 := hx x6 (by simp)
    have c6 : w.cell? ⟨b, off + 6, none⟩ = some (.int .u8 x6) := hc 6 x6 rfl
    have hx7 := hx x7 (by simp)
    have c7 : w.cell? ⟨b, off + 7, none⟩ = some (.int .u8 x7) := hc 7 x7 rfl
    have hN : acc (f - leadOf 8) ((x1 :: x2 :: x3 :: x4 :: x5 :: x6 :: x7 :: r7).take ((8 : Int) - 1).toNat) = (((((((f - 254) * 256 + x1) * 256 + x2) * 256 + x3) * 256 + x4) * 256 + x5) * 256 + x6) * 256 + x7 := by rw [show leadOf 8 = 254 by decide +kernel]; rfl
    have hl2 : 8 ≤ (x1 :: x2 :: x3 :: x4 :: x5 :: x6 :: x7 :: r7).length + 1 := by omega
    refine (get8 f x1 x2 x3 x4 x5 x6 x7 b off ((x1 :: x2 :: x3 :: x4 :: x5 :: x6 :: x7 :: r7).length + 1) cap w hl2 hcap hm hf.1 hf.2 ht hlo hhi hx1.1 hx1.2 hx2.1 hx2.2 hx3.1 hx3.2 hx4.1 hx4.2 hx5.1 hx5.2 hx6.1 hx6.2 hx7.1 hx7.2 c0 c1 c2 c3 c4 c5 c6 c7).mono ?_
    rintro e w' ⟨hE, hd⟩
    refine ⟨?_, hd⟩
    rcases hE with ⟨h, rfl⟩ | ⟨h, rfl⟩
    · rw [getRet_bad f (x1 :: x2 :: x3 :: x4 :: x5 :: x6 :: x7 :: r7) 8 _ ht hsh hN h]
    · rw [getRet_good f (x1 :: x2 :: x3 :: x4 :: x5 :: x6 :: x7 :: r7) 8 _ ht hsh hN h]
  · rw [ht] at hsh
    obtain ⟨x1, r1, rfl⟩ : ∃ x t, r = x :: t := cons_of (by omega)
    obtain ⟨x2, r2, rfl⟩ : ∃ x t, r1 = x :: t := cons_of (by simp only [List.length_cons] at hsh; omega)
    obtain ⟨x3, r3, rfl⟩ : ∃ x t, r2 = x :: t := cons_of (by simp only [List.length_cons] at hsh; omega)
    obtain ⟨x4, r4, rfl⟩ : ∃ x t, r3 = x :: t := cons_of (by simp only [List.length_cons] at hsh; omega)
    obtain ⟨x5, r5, rfl⟩ : ∃ x t, r4 = x :: t := cons_of (by simp only [List.length_cons] at hsh; omega)
    obtain ⟨x6, r6, rfl⟩ : ∃ x t, r5 = x :: t := cons_of (by simp only [List.length_cons] at hsh; omega)
    obtain ⟨x7, r7, rfl⟩ : ∃ x t, r6 = x :: t := cons_of (by simp only [List.length_cons] at hsh; omega)
    obtain ⟨x8, r8, rfl⟩ : ∃ x t, r7 = x :: t := cons_of (by simp only [List.length_cons] at hsh; omega)
    have hx1 := hx x1 (by simp)
    have c1 : w.cell? ⟨b, off + 1, none⟩ = some (.int .u8 x1) := hc 1 x1 rfl
    have hx2 := hx x2 (by simp)
    have c2 : w.cell? ⟨b, off + 2, none⟩ = some (.int .u8 x2) := hc 2 x2 rfl
    have hx3 := hx x3 (by simp)
    have c3 : w.cell? ⟨b, off + 3, none⟩ = some (.int .u8 x3) := hc 3 x3 rfl
    have hx4 := hx x4 (by simp)
    have c4 : w.cell? ⟨b, off + 4, none⟩ = some (.int .u8 x4) := hc 4 x4 rfl
    have hx5 := hx x5 (by simp)
    have c5 : w.cell? ⟨b, off + 5, none⟩ = some (.int .u8 x5) := hc 5 x5 rfl
    have hx6 := hx x6 (by simp)
    have c6 : w.cell? ⟨b, off + 6, none⟩ = some (.int .u8 x6) := hc 6 x6 rfl
    have hx7 := hx x7 (by simp)
    have c7 : w.cell? ⟨b, off + 7, none⟩ = some (.int .u8 x7) := hc 7 x7 rfl
    have hx8 := hx x8 (by simp)
    have c8 : w.cell? ⟨b, off + 8, none⟩ = some (.int .u8 x8) := hc 8 x8 rfl
    have hN : acc (f - leadOf 9) ((x1 :: x2 :: x3 :: x4 :: x5 :: x6 :: x7 :: x8 :: r8).take ((9 : Int) - 1).toNat) = ((((((((f - 255) * 256 + x1) * 256 + x2) * 256 + x3) * 256 + x4) * 256 + x5) * 256 + x6) * 256 + x7) * 256 + x8 := by rw [show leadOf 9 = 255 by decide +kernel]; rfl
    have hl2 : 9 ≤ (x1 :: x2 :: x3 :: x4 :: x5 :: x6 :: x7 :: x8 :: r8).length + 1 := by omega
    refine (get9 f x1 x2 x3 x4 x5 x6 x7 x8 b off ((x1 :: x2 :: x3 :: x4 :: x5 :: x6 :: x7 :: x8 :: r8).length + 1) cap w hl2 hcap hm hf.1 hf.2 ht hlo hhi hx1.1 hx1.2 hx2.1 hx2.2 hx3.1 hx3.2 hx4.1 hx4.2 hx5.1 hx5.2 hx6.1 hx6.2 hx7.1 hx7.2 hx8.1 hx8.2 c0 c1 c2 c3 c4 c5 c6 c7 c8).mono ?_
    rintro e w' ⟨hE, hd⟩
    refine ⟨?_, hd⟩
    rcases hE with ⟨h, rfl⟩ | ⟨h, rfl⟩
    · rw [getRet_bad f (x1 :: x2 :: x3 :: x4 :: x5 :: x6 :: x7 :: x8 :: r8) 9 _ ht hsh hN h]
    · rw [getRet_good f (x1 :: x2 :: x3 :: x4 :: x5 :: x6 :: x7 :: x8 :: r8) 9 _ ht hsh hN h]
end Go.Proofs.YtnchjlimkgbfpaaGreatDoor

namespace Go.Proofs.YtnchjlimkgbfpaaGreatDoor
open Go.RowKit
set_option linter.unusedVariables false
set_option maxRecDepth 20000
end Go.Proofs.YtnchjlimkgbfpaaGreatDoor
