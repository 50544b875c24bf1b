/- The texts VGetAny, VMath, in this order. -/
import Derived.Test.YtnchjlimkgbfpaaGreatDoorVGet

namespace Go.Proofs.YtnchjlimkgbfpaaGreatDoor
open Go.RowKit
set_option linter.unusedVariables false
set_option maxRecDepth 20000
def getRet (l : List Int) : Value := .tuple #[.int .u64 (getOf l).1, .int .i64 (getOf l).2.1, .int .i64 (getOf l).2.2]
theorem getRet_short (f : Int) (r : List Int) (h : ((r.length : Int) + 1) < toldOf f) : getRet (f :: r) = .tuple #[.int .u64 0, .int .i64 0, .int .i64 8] := by
  simp only [getRet, getOf, if_pos h]
theorem getRet_bad (f : Int) (r : List Int) (k N : Int) (ht : toldOf f = k) (hl : ¬ ((r.length : Int) + 1) < k) (hN : acc (f - leadOf k) (r.take (k - 1).toNat) = N) (h : sizeOf N < k) : getRet (f :: r) = .tuple #[.int .u64 0, .int .i64 0, .int .i64 4] := by
  subst ht; subst hN
  simp only [getRet, getOf, if_neg hl, if_pos h]
theorem getRet_good (f : Int) (r : List Int) (k N : Int) (ht : toldOf f = k) (hl : ¬ ((r.length : Int) + 1) < k) (hN : acc (f - leadOf k) (r.take (k - 1).toNat) = N) (h : ¬ sizeOf N < k) : getRet (f :: r) = .tuple #[.int .u64 N, .int .i64 k, .int .i64 0] := by
  subst ht; subst hN
  simp only [getRet, getOf, if_neg hl, if_neg h]
theorem cons_of {r : List Int} (h : 0 < r.length) : ∃ x t, r = x :: t := by
  cases r with
  | nil => simp at h
  | cons x t => exact ⟨x, t, rfl⟩
theorem get_empty (a : Option Addr) (cap : Nat) (w : World) :
    Calls Tryz.prog 90 #[.slice a 0 cap] w fun e w' => e = .returned (.tuple #[.int .u64 0, .int .i64 0, .int .i64 8]) ∧ ∃ d, w' = w.drewN d := by
  go_enter Tryz.func90, Tryz.ntmps90
  go_wp2
  go_ret3
  exact ⟨rfl, 0, rfl⟩
theorem get_short (f k : Int) (b off len cap : Nat) (w : World) (hlen : 0 < len) (hcap : len ≤ cap) (hm : cap ≤ maxLen) (hf0 : 0 ≤ f) (hf1 : f ≤ 255) (ht : toldOf f = k) (hk : (len : Int) < k) (hk9 : k ≤ 9)
    (c0 : w.cell? ⟨b, off, none⟩ = some (.int .u8 f)) :
    Calls Tryz.prog 90 #[.slice (some ⟨b, off, none⟩) len cap] w fun e w' => e = .returned (.tuple #[.int .u64 0, .int .i64 0, .int .i64 8]) ∧ ∃ d, w' = w.drewN d := by
  have H : Hid (toldOf f = k) := ht
  clear ht
  unfold maxLen at hm
  have hne : ((len : Int) == 0) = false := by simp; omega
  go_enter Tryz.func90, Tryz.ntmps90
  go_wp2_with fail
  refine (told_any f _ hf0 hf1).mono ?_
  rintro e w' ⟨rfl, rfl⟩
  rw [H.out]
  go_wp2
  go_ret3
  exact ⟨rfl, 0, rfl⟩
theorem get_any (l : List Int) (v : Value) (w : World) (hv : Octs w v l) :
    Calls Tryz.prog 90 #[v] w fun e w' => e = .returned (getRet l) ∧ ∃ d, w' = w.drewN d := by
  obtain ⟨hx, hv⟩ := hv
  rcases hv with ⟨rfl, a, cap, rfl, _⟩ | ⟨hne, b, off, cap, rfl, hcap, hm, hc⟩
  · exact get_empty a cap w
  obtain ⟨f, r, rfl⟩ : ∃ f r, l = f :: r := cons_of (List.length_pos_iff.2 hne)
  have hf := hx f (by simp)
  have c0 : w.cell? ⟨b, off, none⟩ = some (.int .u8 f) := hc 0 f rfl
  simp only [List.length_cons] at hcap
  by_cases hsh : ((r.length : Int) + 1) < toldOf f
  · have hk9 : toldOf f ≤ 9 := by unfold toldOf; have := bl_nonneg (255 - f); omega
    rw [getRet_short f r hsh]
    exact get_short f (toldOf f) b off (r.length + 1) cap w (by omega) hcap hm hf.1 hf.2 rfl (by omega) hk9 c0
  rcases told_cases f hf.1 hf.2 with ⟨ht, hlo, hhi⟩ | ⟨ht, hlo, hhi⟩ | ⟨ht, hlo, hhi⟩ | ⟨ht, hlo, hhi⟩ | ⟨ht, hlo, hhi⟩ | ⟨ht, hlo, hhi⟩ | ⟨ht, hlo, hhi⟩ | ⟨ht, hlo, hhi⟩ | ⟨ht, hlo, hhi⟩
  · rw [ht] at hsh
    have hN : acc (f - leadOf 1) ((r).take ((1 : Int) - 1).toNat) = f := by rw [show leadOf 1 = 0 by decide +kernel]; simp [acc]
    have hl2 : 1 ≤ (r).length + 1 := by omega
    refine (get1 f  b off ((r).length + 1) cap w hl2 hcap hm hf.1 hf.2 ht hlo hhi  c0 ).mono ?_
    rintro e w' ⟨hE, hd⟩
    refine ⟨?_, hd⟩
    rcases hE with ⟨h, rfl⟩ | ⟨h, rfl⟩
    · rw [getRet_bad f (r) 1 _ ht hsh hN h]
    · rw [getRet_good f (r) 1 _ ht hsh hN h]
  · rw [ht] at hsh
    obtain ⟨x1, r1, rfl⟩ : ∃ x t, r = x :: t := cons_of (by omega)
    have hx1 := hx x1 (by simp)
    have c1 : w.cell? ⟨b, off + 1, none⟩ = some (.int .u8 x1) := hc 1 x1 rfl
    have hN : acc (f - leadOf 2) ((x1 :: r1).take ((2 : Int) - 1).toNat) = (f - 128) * 256 + x1 := by rw [show leadOf 2 = 128 by decide +kernel]; rfl
    have hl2 : 2 ≤ (x1 :: r1).length + 1 := by omega
    refine (get2 f x1 b off ((x1 :: r1).length + 1) cap w hl2 hcap hm hf.1 hf.2 ht hlo hhi hx1.1 hx1.2 c0 c1).mono ?_
    rintro e w' ⟨hE, hd⟩
    refine ⟨?_, hd⟩
    rcases hE with ⟨h, rfl⟩ | ⟨h, rfl⟩
    · rw [getRet_bad f (x1 :: r1) 2 _ ht hsh hN h]
    · rw [getRet_good f (x1 :: r1) 2 _ ht hsh hN h]
  · rw [ht] at hsh
    obtain ⟨x1, r1, rfl⟩ : ∃ x t, r = x :: t := cons_of (by omega)
    obtain ⟨x2, r2, rfl⟩ : ∃ x t, r1 = x :: t := cons_of (by simp only [List.length_cons] at hsh; omega)
    have hx1 := hx x1 (by simp)
    have c1 : w.cell? ⟨b, off + 1, none⟩ = some (.int .u8 x1) := hc 1 x1 rfl
    have hx2 := hx x2 (by simp)
    have c2 : w.cell? ⟨b, off + 2, none⟩ = some (.int .u8 x2) := hc 2 x2 rfl
    have hN : acc (f - leadOf 3) ((x1 :: x2 :: r2).take ((3 : Int) - 1).toNat) = ((f - 192) * 256 + x1) * 256 + x2 := by rw [show leadOf 3 = 192 by decide +kernel]; rfl
    have hl2 : 3 ≤ (x1 :: x2 :: r2).length + 1 := by omega
    refine (get3 f x1 x2 b off ((x1 :: x2 :: r2).length + 1) cap w hl2 hcap hm hf.1 hf.2 ht hlo hhi hx1.1 hx1.2 hx2.1 hx2.2 c0 c1 c2).mono ?_
    rintro e w' ⟨hE, hd⟩
    refine ⟨?_, hd⟩
    rcases hE with ⟨h, rfl⟩ | ⟨h, rfl⟩
    · rw [getRet_bad f (x1 :: x2 :: r2) 3 _ ht hsh hN h]
    · rw [getRet_good f (x1 :: x2 :: r2) 3 _ ht hsh hN h]
  · rw [ht] at hsh
    obtain ⟨x1, r1, rfl⟩ : ∃ x t, r = x :: t := cons_of (by omega)
    obtain ⟨x2, r2, rfl⟩ : ∃ x t, r1 = x :: t := cons_of (by simp only [List.length_cons] at hsh; omega)
    obtain ⟨x3, r3, rfl⟩ : ∃ x t, r2 = x :: t := cons_of (by simp only [List.length_cons] at hsh; omega)
    have hx1 := hx x1 (by simp)
    have c1 : w.cell? ⟨b, off + 1, none⟩ = some (.int .u8 x1) := hc 1 x1 rfl
    have hx2 := hx x2 (by simp)
    have c2 : w.cell? ⟨b, off + 2, none⟩ = some (.int .u8 x2) := hc 2 x2 rfl
    have hx3 := hx x3 (by simp)
    have c3 : w.cell? ⟨b, off + 3, none⟩ = some (.int .u8 x3) := hc 3 x3 rfl
    have hN : acc (f - leadOf 4) ((x1 :: x2 :: x3 :: r3).take ((4 : Int) - 1).toNat) = (((f - 224) * 256 + x1) * 256 + x2) * 256 + x3 := by rw [show leadOf 4 = 224 by decide +kernel]; rfl
    have hl2 : 4 ≤ (x1 :: x2 :: x3 :: r3).length + 1 := by omega
    refine (get4 f x1 x2 x3 b off ((x1 :: x2 :: x3 :: r3).length + 1) cap w hl2 hcap hm hf.1 hf.2 ht hlo hhi hx1.1 hx1.2 hx2.1 hx2.2 hx3.1 hx3.2 c0 c1 c2 c3).mono ?_
    rintro e w' ⟨hE, hd⟩
    refine ⟨?_, hd⟩
    rcases hE with ⟨h, rfl⟩ | ⟨h, rfl⟩
    · rw [getRet_bad f (x1 :: x2 :: x3 :: r3) 4 _ ht hsh hN h]
    · rw [getRet_good f (x1 :: x2 :: x3 :: r3) 4 _ ht hsh hN h]
  · rw [ht] at hsh
    obtain ⟨x1, r1, rfl⟩ : ∃ x t, r = x :: t := cons_of (by omega)
    obtain ⟨x2, r2, rfl⟩ : ∃ x t, r1 = x :: t := cons_of (by simp only [List.length_cons] at hsh; omega)
    obtain ⟨x3, r3, rfl⟩ : ∃ x t, r2 = x :: t := cons_of (by simp only [List.length_cons] at hsh; omega)
    obtain ⟨x4, r4, rfl⟩ : ∃ x t, r3 = x :: t := cons_of (by simp only [List.length_cons] at hsh; omega)
    have hx1 := hx x1 (by simp)
    have c1 : w.cell? ⟨b, off + 1, none⟩ = some (.int .u8 x1) := hc 1 x1 rfl
    have hx2 := hx x2 (by simp)
    have c2 : w.cell? ⟨b, off + 2, none⟩ = some (.int .u8 x2) := hc 2 x2 rfl
    have hx3 := hx x3 (by simp)
    have c3 : w.cell? ⟨b, off + 3, none⟩ = some (.int .u8 x3) := hc 3 x3 rfl
    have hx4 := hx x4 (by simp)
    have c4 : w.cell? ⟨b, off + 4, none⟩ = some (.int .u8 x4) := hc 4 x4 rfl
    have hN : acc (f - leadOf 5) ((x1 :: x2 :: x3 :: x4 :: r4).take ((5 : Int) - 1).toNat) = ((((f - 240) * 256 + x1) * 256 + x2) * 256 + x3) * 256 + x4 := by rw [show leadOf 5 = 240 by decide +kernel]; rfl
    have hl2 : 5 ≤ (x1 :: x2 :: x3 :: x4 :: r4).length + 1 := by omega
    refine (get5 f x1 x2 x3 x4 b off ((x1 :: x2 :: x3 :: x4 :: r4).length + 1) cap w hl2 hcap hm hf.1 hf.2 ht hlo hhi hx1.1 hx1.2 hx2.1 hx2.2 hx3.1 hx3.2 hx4.1 hx4.2 c0 c1 c2 c3 c4).mono ?_
    rintro e w' ⟨hE, hd⟩
    refine ⟨?_, hd⟩
    rcases hE with ⟨h, rfl⟩ | ⟨h, rfl⟩
    · rw [getRet_bad f (x1 :: x2 :: x3 :: x4 :: r4) 5 _ ht hsh hN h]
    · rw [getRet_good f (x1 :: x2 :: x3 :: x4 :: r4) 5 _ ht hsh hN h]
  · rw [ht] at hsh
    obtain ⟨x1, r1, rfl⟩ : ∃ x t, r = x :: t := cons_of (by omega)
    obtain ⟨x2, r2, rfl⟩ : ∃ x t, r1 = x :: t := cons_of (by simp only [List.length_cons] at hsh; omega)
    obtain ⟨x3, r3, rfl⟩ : ∃ x t, r2 = x :: t := cons_of (by simp only [List.length_cons] at hsh; omega)
    obtain ⟨x4, r4, rfl⟩ : ∃ x t, r3 = x :: t := cons_of (by simp only [List.length_cons] at hsh; omega)
    obtain ⟨x5, r5, rfl⟩ : ∃ x t, r4 = x :: t := cons_of (by simp only [List.length_cons] at hsh; omega)
    have hx1 := hx x1 (by simp)
    have c1 : w.cell? ⟨b, off + 1, none⟩ = some (.int .u8 x1) := hc 1 x1 rfl
    have hx2 := hx x2 (by simp)
    have c2 : w.cell? ⟨b, off + 2, none⟩ = some (.int .u8 x2) := hc 2 x2 rfl
    have hx3 := hx x3 (by simp)
    have c3 : w.cell? ⟨b, off + 3, none⟩ = some (.int .u8 x3) := hc 3 x3 rfl
    have hx4 := hx x4 (by simp)
    have c4 : w.cell? ⟨b, off + 4, none⟩ = some (.int .u8 x4) := hc 4 x4 rfl
    have hx5 := hx x5 (by simp)
    have c5 : w.cell? ⟨b, off + 5, none⟩ = some (.int .u8 x5) := hc 5 x5 rfl
    have hN : acc (f - leadOf 6) ((x1 :: x2 :: x3 :: x4 :: x5 :: r5).take ((6 : Int) - 1).toNat) = (((((f - 248) * 256 + x1) * 256 + x2) * 256 + x3) * 256 + x4) * 256 + x5 := by rw [show leadOf 6 = 248 by decide +kernel]; rfl
    have hl2 : 6 ≤ (x1 :: x2 :: x3 :: x4 :: x5 :: r5).length + 1 := by omega
    refine (get6 f x1 x2 x3 x4 x5 b off ((x1 :: x2 :: x3 :: x4 :: x5 :: r5).length + 1) cap w hl2 hcap hm hf.1 hf.2 ht hlo hhi hx1.1 hx1.2 hx2.1 hx2.2 hx3.1 hx3.2 hx4.1 hx4.2 hx5.1 hx5.2 c0 c1 c2 c3 c4 c5).mono ?_
    rintro e w' ⟨hE, hd⟩
    refine ⟨?_, hd⟩
    rcases hE with ⟨h, rfl⟩ | ⟨h, rfl⟩
    · rw [getRet_bad f (x1 :: x2 :: x3 :: x4 :: x5 :: r5) 6 _ ht hsh hN h]
    · rw [getRet_good f (x1 :: x2 :: x3 :: x4 :: x5 :: r5) 6 _ ht hsh hN h]
  · rw [ht] at hsh
    obtain ⟨x1, r1, rfl⟩ : ∃ x t, r = x :: t := cons_of (by omega)
    obtain ⟨x2, r2, rfl⟩ : ∃ x t, r1 = x :: t := cons_of (by simp only [List.length_cons] at hsh; omega)
    obtain ⟨x3, r3, rfl⟩ : ∃ x t, r2 = x :: t := cons_of (by simp only [List.length_cons] at hsh; omega)
    obtain ⟨x4, r4, rfl⟩ : ∃ x t, r3 = x :: t := cons_of (by simp only [List.length_cons] at hsh; omega)
    obtain ⟨x5, r5, rfl⟩ : ∃ x t, r4 = x :: t := cons_of (by simp only [List.length_cons] at hsh; omega)
    obtain ⟨x6, r6, rfl⟩ : ∃ x t, r5 = x :: t := cons_of (by simp only [List.length_cons] at hsh; omega)
    have hx1 := hx x1 (by simp)
    have c1 : w.cell? ⟨b, off + 1, none⟩ = some (.int .u8 x1) := hc 1 x1 rfl
    have hx2 := hx x2 (by simp)
    have c2 : w.cell? ⟨b, off + 2, none⟩ = some (.int .u8 x2) := hc 2 x2 rfl
    have hx3 := hx x3 (by simp)
    have c3 : w.cell? ⟨b, off + 3, none⟩ = some (.int .u8 x3) := hc 3 x3 rfl
    have hx4 := hx x4 (by simp)
    have c4 : w.cell? ⟨b, off + 4, none⟩ = some (.int .u8 x4) := hc 4 x4 rfl
    have hx5 := hx x5 (by simp)
    have c5 : w.cell? ⟨b, off + 5, none⟩ = some (.int .u8 x5) := hc 5 x5 rfl
    have hx6 := hx x6 (by simp)
    have c6 : w.cell? ⟨b, off + 6, none⟩ = some (.int .u8 x6) := hc 6 x6 rfl
    have hN : acc (f - leadOf 7) ((x1 :: x2 :: x3 :: x4 :: x5 :: x6 :: r6).take ((7 : Int) - 1).toNat) = ((((((f - 252) * 256 + x1) * 256 + x2) * 256 + x3) * 256 + x4) * 256 + x5) * 256 + x6 := by rw [show leadOf 7 = 252 by decide +kernel]; rfl
    have hl2 : 7 ≤ (x1 :: x2 :: x3 :: x4 :: x5 :: x6 :: r6).length + 1 := by omega
    refine (get7 f x1 x2 x3 x4 x5 x6 b off ((x1 :: x2 :: x3 :: x4 :: x5 :: x6 :: r6).length + 1) cap w hl2 hcap hm hf.1 hf.2 ht hlo hhi hx1.1 hx1.2 hx2.1 hx2.2 hx3.1 hx3.2 hx4.1 hx4.2 hx5.1 hx5.2 hx6.1 hx6.2 c0 c1 c2 c3 c4 c5 c6).mono ?_
    rintro e w' ⟨hE, hd⟩
    refine ⟨?_, hd⟩
    rcases hE with ⟨h, rfl⟩ | ⟨h, rfl⟩
    · rw [getRet_bad f (x1 :: x2 :: x3 :: x4 :: x5 :: x6 :: r6) 7 _ ht hsh hN h]
    · rw [getRet_good f (x1 :: x2 :: x3 :: x4 :: x5 :: x6 :: r6) 7 _ ht hsh hN h]
  · rw [ht] at hsh
    obtain ⟨x1, r1, rfl⟩ : ∃ x t, r = x :: t := cons_of (by omega)
    obtain ⟨x2, r2, rfl⟩ : ∃ x t, r1 = x :: t := cons_of (by simp only [List.length_cons] at hsh; omega)
    obtain ⟨x3, r3, rfl⟩ : ∃ x t, r2 = x :: t := cons_of (by simp only [List.length_cons] at hsh; omega)
    obtain ⟨x4, r4, rfl⟩ : ∃ x t, r3 = x :: t := cons_of (by simp only [List.length_cons] at hsh; omega)
    obtain ⟨x5, r5, rfl⟩ : ∃ x t, r4 = x :: t := cons_of (by simp only [List.length_cons] at hsh; omega)
    obtain ⟨x6, r6, rfl⟩ : ∃ x t, r5 = x :: t := cons_of (by simp only [List.length_cons] at hsh; omega)
    obtain ⟨x7, r7, rfl⟩ : ∃ x t, r6 = x :: t := cons_of (by simp only [List.length_cons] at hsh; omega)
    have hx1 := hx x1 (by simp)
    have c1 : w.cell? ⟨b, off + 1, none⟩ = some (.int .u8 x1) := hc 1 x1 rfl
    have hx2 := hx x2 (by simp)
    have c2 : w.cell? ⟨b, off + 2, none⟩ = some (.int .u8 x2) := hc 2 x2 rfl
    have hx3 := hx x3 (by simp)
    have c3 : w.cell? ⟨b, off + 3, none⟩ = some (.int .u8 x3) := hc 3 x3 rfl
    have hx4 := hx x4 (by simp)
    have c4 : w.cell? ⟨b, off + 4, none⟩ = some (.int .u8 x4) := hc 4 x4 rfl
    have hx5 := hx x5 (by simp)
    have c5 : w.cell? ⟨b, off + 5, none⟩ = some (.int .u8 x5) := hc 5 x5 rfl
    have hx6 := hx x6 (by simp)
    have c6 : w.cell? ⟨b, off + 6, none⟩ = some (.int .u8 x6) := hc 6 x6 rfl
    have hx7 := hx x7 (by simp)
    have c7 : w.cell? ⟨b, off + 7, none⟩ = some (.int .u8 x7) := hc 7 x7 rfl
    have hN : acc (f - leadOf 8) ((x1 :: x2 :: x3 :: x4 :: x5 :: x6 :: x7 :: r7).take ((8 : Int) - 1).toNat) = (((((((f - 254) * 256 + x1) * 256 + x2) * 256 + x3) * 256 + x4) * 256 + x5) * 256 + x6) * 256 + x7 := by rw [show leadOf 8 = 254 by decide +kernel]; rfl
    have hl2 : 8 ≤ (x1 :: x2 :: x3 :: x4 :: x5 :: x6 :: x7 :: r7).length + 1 := by omega
    refine (get8 f x1 x2 x3 x4 x5 x6 x7 b off ((x1 :: x2 :: x3 :: x4 :: x5 :: x6 :: x7 :: r7).length + 1) cap w hl2 hcap hm hf.1 hf.2 ht hlo hhi hx1.1 hx1.2 hx2.1 hx2.2 hx3.1 hx3.2 hx4.1 hx4.2 hx5.1 hx5.2 hx6.1 hx6.2 hx7.1 hx7.2 c0 c1 c2 c3 c4 c5 c6 c7).mono ?_
    rintro e w' ⟨hE, hd⟩
    refine ⟨?_, hd⟩
    rcases hE with ⟨h, rfl⟩ | ⟨h, rfl⟩
    · rw [getRet_bad f (x1 :: x2 :: x3 :: x4 :: x5 :: x6 :: x7 :: r7) 8 _ ht hsh hN h]
    · rw [getRet_good f (x1 :: x2 :: x3 :: x4 :: x5 :: x6 :: x7 :: r7) 8 _ ht hsh hN h]
  · rw [ht] at hsh
    obtain ⟨x1, r1, rfl⟩ : ∃ x t, r = x :: t := cons_of (by omega)
    obtain ⟨x2, r2, rfl⟩ : ∃ x t, r1 = x :: t := cons_of (by simp only [List.length_cons] at hsh; omega)
    obtain ⟨x3, r3, rfl⟩ : ∃ x t, r2 = x :: t := cons_of (by simp only [List.length_cons] at hsh; omega)
    obtain ⟨x4, r4, rfl⟩ : ∃ x t, r3 = x :: t := cons_of (by simp only [List.length_cons] at hsh; omega)
    obtain ⟨x5, r5, rfl⟩ : ∃ x t, r4 = x :: t := cons_of (by simp only [List.length_cons] at hsh; omega)
    obtain ⟨x6, r6, rfl⟩ : ∃ x t, r5 = x :: t := cons_of (by simp only [List.length_cons] at hsh; omega)
    obtain ⟨x7, r7, rfl⟩ : ∃ x t, r6 = x :: t := cons_of (by simp only [List.length_cons] at hsh; omega)
    obtain ⟨x8, r8, rfl⟩ : ∃ x t, r7 = x :: t := cons_of (by simp only [List.length_cons] at hsh; omega)
    have hx1 := hx x1 (by simp)
    have c1 : w.cell? ⟨b, off + 1, none⟩ = some (.int .u8 x1) := hc 1 x1 rfl
    have hx2 := hx x2 (by simp)
    have c2 : w.cell? ⟨b, off + 2, none⟩ = some (.int .u8 x2) := hc 2 x2 rfl
    have hx3 := hx x3 (by simp)
    have c3 : w.cell? ⟨b, off + 3, none⟩ = some (.int .u8 x3) := hc 3 x3 rfl
    have hx4 := hx x4 (by simp)
    have c4 : w.cell? ⟨b, off + 4, none⟩ = some (.int .u8 x4) := hc 4 x4 rfl
    have hx5 := hx x5 (by simp)
    have c5 : w.cell? ⟨b, off + 5, none⟩ = some (.int .u8 x5) := hc 5 x5 rfl
    have hx6 := hx x6 (by simp)
    have c6 : w.cell? ⟨b, off + 6, none⟩ = some (.int .u8 x6) := hc 6 x6 rfl
    have hx7 := hx x7 (by simp)
    have c7 : w.cell? ⟨b, off + 7, none⟩ = some (.int .u8 x7) := hc 7 x7 rfl
    have hx8 := hx x8 (by simp)
    have c8 : w.cell? ⟨b, off + 8, none⟩ = some (.int .u8 x8) := hc 8 x8 rfl
    have hN : acc (f - leadOf 9) ((x1 :: x2 :: x3 :: x4 :: x5 :: x6 :: x7 :: x8 :: r8).take ((9 : Int) - 1).toNat) = ((((((((f - 255) * 256 + x1) * 256 + x2) * 256 + x3) * 256 + x4) * 256 + x5) * 256 + x6) * 256 + x7) * 256 + x8 := by rw [show leadOf 9 = 255 by decide +kernel]; rfl
    have hl2 : 9 ≤ (x1 :: x2 :: x3 :: x4 :: x5 :: x6 :: x7 :: x8 :: r8).length + 1 := by omega
    refine (get9 f x1 x2 x3 x4 x5 x6 x7 x8 b off ((x1 :: x2 :: x3 :: x4 :: x5 :: x6 :: x7 :: x8 :: r8).length + 1) cap w hl2 hcap hm hf.1 hf.2 ht hlo hhi hx1.1 hx1.2 hx2.1 hx2.2 hx3.1 hx3.2 hx4.1 hx4.2 hx5.1 hx5.2 hx6.1 hx6.2 hx7.1 hx7.2 hx8.1 hx8.2 c0 c1 c2 c3 c4 c5 c6 c7 c8).mono ?_
    rintro e w' ⟨hE, hd⟩
    refine ⟨?_, hd⟩
    rcases hE with ⟨h, rfl⟩ | ⟨h, rfl⟩
    · rw [getRet_bad f (x1 :: x2 :: x3 :: x4 :: x5 :: x6 :: x7 :: x8 :: r8) 9 _ ht hsh hN h]
    · rw [getRet_good f (x1 :: x2 :: x3 :: x4 :: x5 :: x6 :: x7 :: x8 :: r8) 9 _ ht hsh hN h]
end Go.Proofs.YtnchjlimkgbfpaaGreatDoor

namespace Go.Proofs.YtnchjlimkgbfpaaGreatDoor
open Go.RowKit
set_option linter.unusedVariables false
set_option maxRecDepth 20000
theorem all_cons {p : Int → Prop} {a : Int} {l : List Int} (h : p a) (hl : ∀ x ∈ l, p x) : ∀ x ∈ a :: l, p x := by
  intro x hx
  rcases List.mem_cons.1 hx with rfl | hx
  · exact h
  · exact hl x hx
theorem all_nil {p : Int → Prop} : ∀ x ∈ ([] : List Int), p x := by
  intro x hx
  cases hx
theorem told_of (f k lo hi : Int) (h0 : 0 ≤ f) (h1 : f ≤ 255) (hk : (lo = 0 ∧ hi = 127 ∧ k = 1) ∨ (lo = 128 ∧ hi = 191 ∧ k = 2) ∨ (lo = 192 ∧ hi = 223 ∧ k = 3) ∨ (lo = 224 ∧ hi = 239 ∧ k = 4) ∨ (lo = 240 ∧ hi = 247 ∧ k = 5) ∨ (lo = 248 ∧ hi = 251 ∧ k = 6) ∨ (lo = 252 ∧ hi = 253 ∧ k = 7) ∨ (lo = 254 ∧ hi = 254 ∧ k = 8) ∨ (lo = 255 ∧ hi = 255 ∧ k = 9)) (hl : lo ≤ f) (hh : f ≤ hi) : toldOf f = k := by
  rcases told_cases f h0 h1 with ⟨h, a, b⟩ | ⟨h, a, b⟩ | ⟨h, a, b⟩ | ⟨h, a, b⟩ | ⟨h, a, b⟩ | ⟨h, a, b⟩ | ⟨h, a, b⟩ | ⟨h, a, b⟩ | ⟨h, a, b⟩ <;> rw [h] <;> clear h <;> omega
structure Form (n : Int) (l : List Int) : Prop where
  size : (l.length : Int) = sizeOf n
  octet : ∀ x ∈ l, 0 ≤ x ∧ x ≤ 255
  first : ∃ f r, l = f :: r ∧ toldOf f = sizeOf n ∧ acc (f - leadOf (sizeOf n)) r = n
theorem form1 (n : Int) (h0 : 0 ≤ n) (h1 : n ≤ 127) (hs : sizeOf n = 1) : Form n (octs n 1) := by
  refine ⟨by rw [hs]; rfl, ?_, n, [], rfl, ?_, ?_⟩
  · exact all_cons (by omega) (all_nil)
  · rw [hs]; exact told_of (n) 1 0 127 (by omega) (by omega) (by decide) (by omega) (by omega)
  · rw [hs, show leadOf 1 = 0 by decide +kernel]
    show (n - 0) = n
    rw [show n - 0 = n by omega]
theorem form2 (n : Int) (h0 : 128 ≤ n) (h1 : n ≤ 16383) (hs : sizeOf n = 2) : Form n (octs n 2) := by
  refine ⟨by rw [hs]; rfl, ?_, 128 + n / 256, [n % 256], rfl, ?_, ?_⟩
  · exact all_cons (by omega) (all_cons (by omega) (all_nil))
  · rw [hs]; exact told_of (128 + n / 256) 2 128 191 (by omega) (by omega) (by decide) (by omega) (by omega)
  · rw [hs, show leadOf 2 = 128 by decide +kernel]
    show ((128 + n / 256 - 128)) * 256 + n % 256 = n
    rw [show 128 + n / 256 - 128 = n / 256 by omega, show (n / 256) * 256 + n % 256 = n by omega]
theorem form3 (n : Int) (h0 : 16384 ≤ n) (h1 : n ≤ 2097151) (hs : sizeOf n = 3) : Form n (octs n 3) := by
  refine ⟨by rw [hs]; rfl, ?_, 192 + n / 65536, [n / 256 % 256, n % 256], rfl, ?_, ?_⟩
  · exact all_cons (by omega) (all_cons (by omega) (all_cons (by omega) (all_nil)))
  · rw [hs]; exact told_of (192 + n / 65536) 3 192 223 (by omega) (by omega) (by decide) (by omega) (by omega)
  · rw [hs, show leadOf 3 = 192 by decide +kernel]
    show (((192 + n / 65536 - 192)) * 256 + n / 256 % 256) * 256 + n % 256 = n
    rw [show 192 + n / 65536 - 192 = n / 65536 by omega, show (n / 65536) * 256 + n / 256 % 256 = n / 256 by omega, show (n / 256) * 256 + n % 256 = n by omega]
theorem form4 (n : Int) (h0 : 2097152 ≤ n) (h1 : n ≤ 268435455) (hs : sizeOf n = 4) : Form n (octs n 4) := by
  refine ⟨by rw [hs]; rfl, ?_, 224 + n / 16777216, [n / 65536 % 256, n / 256 % 256, n % 256], rfl, ?_, ?_⟩
  · exact all_cons (by omega) (all_cons (by omega) (all_cons (by omega) (all_cons (by omega) (all_nil))))
  · rw [hs]; exact told_of (224 + n / 16777216) 4 224 239 (by omega) (by omega) (by decide) (by omega) (by omega)
  · rw [hs, show leadOf 4 = 224 by decide +kernel]
    show ((((224 + n / 16777216 - 224)) * 256 + n / 65536 % 256) * 256 + n / 256 % 256) * 256 + n % 256 = n
    rw [show 224 + n / 16777216 - 224 = n / 16777216 by omega, show (n / 16777216) * 256 + n / 65536 % 256 = n / 65536 by omega, show (n / 65536) * 256 + n / 256 % 256 = n / 256 by omega, show (n / 256) * 256 + n % 256 = n by omega]
theorem form5 (n : Int) (h0 : 268435456 ≤ n) (h1 : n ≤ 34359738367) (hs : sizeOf n = 5) : Form n (octs n 5) := by
  refine ⟨by rw [hs]; rfl, ?_, 240 + n / 4294967296, [n / 16777216 % 256, n / 65536 % 256, n / 256 % 256, n % 256], rfl, ?_, ?_⟩
  · exact all_cons (by omega) (all_cons (by omega) (all_cons (by omega) (all_cons (by omega) (all_cons (by omega) (all_nil)))))
  · rw [hs]; exact told_of (240 + n / 4294967296) 5 240 247 (by omega) (by omega) (by decide) (by omega) (by omega)
  · rw [hs, show leadOf 5 = 240 by decide +kernel]
    show (((((240 + n / 4294967296 - 240)) * 256 + n / 16777216 % 256) * 256 + n / 65536 % 256) * 256 + n / 256 % 256) * 256 + n % 256 = n
    rw [show 240 + n / 4294967296 - 240 = n / 4294967296 by omega, show (n / 4294967296) * 256 + n / 16777216 % 256 = n / 16777216 by omega, show (n / 16777216) * 256 + n / 65536 % 256 = n / 65536 by omega, show (n / 65536) * 256 + n / 256 % 256 = n / 256 by omega, show (n / 256) * 256 + n % 256 = n by omega]
theorem form6 (n : Int) (h0 : 34359738368 ≤ n) (h1 : n ≤ 4398046511103) (hs : sizeOf n = 6) : Form n (octs n 6) := by
  refine ⟨by rw [hs]; rfl, ?_, 248 + n / 1099511627776, [n / 4294967296 % 256, n / 16777216 % 256, n / 65536 % 256, n / 256 % 256, n % 256], rfl, ?_, ?_⟩
  · exact all_cons (by omega) (all_cons (by omega) (all_cons (by omega) (all_cons (by omega) (all_cons (by omega) (all_cons (by omega) (all_nil))))))
  · rw [hs]; exact told_of (248 + n / 1099511627776) 6 248 251 (by omega) (by omega) (by decide) (by omega) (by omega)
  · rw [hs, show leadOf 6 = 248 by decide +kernel]
    show ((((((248 + n / 1099511627776 - 248)) * 256 + n / 4294967296 % 256) * 256 + n / 16777216 % 256) * 256 + n / 65536 % 256) * 256 + n / 256 % 256) * 256 + n % 256 = n
    rw [show 248 + n / 1099511627776 - 248 = n / 1099511627776 by omega, show (n / 1099511627776) * 256 + n / 4294967296 % 256 = n / 4294967296 by omega, show (n / 4294967296) * 256 + n / 16777216 % 256 = n / 16777216 by omega, show (n / 16777216) * 256 + n / 65536 % 256 = n / 65536 by omega, show (n / 65536) * 256 + n / 256 % 256 = n / 256 by omega, show (n / 256) * 256 + n % 256 = n by omega]
theorem form7 (n : Int) (h0 : 4398046511104 ≤ n) (h1 : n ≤ 562949953421311) (hs : sizeOf n = 7) : Form n (octs n 7) := by
  refine ⟨by rw [hs]; rfl, ?_, 252 + n / 281474976710656, [n / 1099511627776 % 256, n / 4294967296 % 256, n / 16777216 % 256, n / 65536 % 256, n / 256 % 256, n % 256], rfl, ?_, ?_⟩
  · exact all_cons (by omega) (all_cons (by omega) (all_cons (by omega) (all_cons (by omega) (all_cons (by omega) (all_cons (by omega) (all_cons (by omega) (all_nil)))))))
  · rw [hs]; exact told_of (252 + n / 281474976710656) 7 252 253 (by omega) (by omega) (by decide) (by omega) (by omega)
  · rw [hs, show leadOf 7 = 252 by decide +kernel]
    show (((((((252 + n / 281474976710656 - 252)) * 256 + n / 1099511627776 % 256) * 256 + n / 4294967296 % 256) * 256 + n / 16777216 % 256) * 256 + n / 65536 % 256) * 256 + n / 256 % 256) * 256 + n % 256 = n
    rw [show 252 + n / 281474976710656 - 252 = n / 281474976710656 by omega, show (n / 281474976710656) * 256 + n / 1099511627776 % 256 = n / 1099511627776 by omega, show (n / 1099511627776) * 256 + n / 4294967296 % 256 = n / 4294967296 by omega, show (n / 4294967296) * 256 + n / 16777216 % 256 = n / 16777216 by omega, show (n / 16777216) * 256 + n / 65536 % 256 = n / 65536 by omega, show (n / 65536) * 256 + n / 256 % 256 = n / 256 by omega, show (n / 256) * 256 + n % 256 = n by omega]
theorem form8 (n : Int) (h0 : 562949953421312 ≤ n) (h1 : n ≤ 72057594037927935) (hs : sizeOf n = 8) : Form n (octs n 8) := by
  refine ⟨by rw [hs]; rfl, ?_, 254 + n / 72057594037927936, [n / 281474976710656 % 256, n / 1099511627776 % 256, n / 4294967296 % 256, n / 16777216 % 256, n / 65536 % 256, n / 256 % 256, n % 256], rfl, ?_, ?_⟩
  · exact all_cons (by omega) (all_cons (by omega) (all_cons (by omega) (all_cons (by omega) (all_cons (by omega) (all_cons (by omega) (all_cons (by omega) (all_cons (by omega) (all_nil))))))))
  · rw [hs]; exact told_of (254 + n / 72057594037927936) 8 254 254 (by omega) (by omega) (by decide) (by omega) (by omega)
  · rw [hs, show leadOf 8 = 254 by decide +kernel]
    show ((((((((254 + n / 72057594037927936 - 254)) * 256 + n / 281474976710656 % 256) * 256 + n / 1099511627776 % 256) * 256 + n / 4294967296 % 256) * 256 + n / 16777216 % 256) * 256 + n / 65536 % 256) * 256 + n / 256 % 256) * 256 + n % 256 = n
    rw [show 254 + n / 72057594037927936 - 254 = n / 72057594037927936 by omega, show (n / 72057594037927936) * 256 + n / 281474976710656 % 256 = n / 281474976710656 by omega, show (n / 281474976710656) * 256 + n / 1099511627776 % 256 = n / 1099511627776 by omega, show (n / 1099511627776) * 256 + n / 4294967296 % 256 = n / 4294967296 by omega, show (n / 4294967296) * 256 + n / 16777216 % 256 = n / 16777216 by omega, show (n / 16777216) * 256 + n / 65536 % 256 = n / 65536 by omega, show (n / 65536) * 256 + n / 256 % 256 = n / 256 by omega, show (n / 256) * 256 + n % 256 = n by omega]
theorem form9 (n : Int) (h0 : 72057594037927936 ≤ n) (h1 : n ≤ 18446744073709551615) (hs : sizeOf n = 9) : Form n (octs n 9) := by
  refine ⟨by rw [hs]; rfl, ?_, 255, [n / 72057594037927936 % 256, n / 281474976710656 % 256, n / 1099511627776 % 256, n / 4294967296 % 256, n / 16777216 % 256, n / 65536 % 256, n / 256 % 256, n % 256], rfl, ?_, ?_⟩
  · exact all_cons (by omega) (all_cons (by omega) (all_cons (by omega) (all_cons (by omega) (all_cons (by omega) (all_cons (by omega) (all_cons (by omega) (all_cons (by omega) (all_cons (by omega) (all_nil)))))))))
  · rw [hs]; exact told_of (255) 9 255 255 (by omega) (by omega) (by decide) (by omega) (by omega)
  · rw [hs, show leadOf 9 = 255 by decide +kernel]
    show ((((((((((255 : Int) - 255)) * 256 + n / 72057594037927936 % 256) * 256 + n / 281474976710656 % 256) * 256 + n / 1099511627776 % 256) * 256 + n / 4294967296 % 256) * 256 + n / 16777216 % 256) * 256 + n / 65536 % 256) * 256 + n / 256 % 256) * 256 + n % 256 = n
    rw [show (255 : Int) - 255 = 0 by omega, show (0) * 256 + n / 72057594037927936 % 256 = n / 72057594037927936 by omega, show (n / 72057594037927936) * 256 + n / 281474976710656 % 256 = n / 281474976710656 by omega, show (n / 281474976710656) * 256 + n / 1099511627776 % 256 = n / 1099511627776 by omega, show (n / 1099511627776) * 256 + n / 4294967296 % 256 = n / 4294967296 by omega, show (n / 4294967296) * 256 + n / 16777216 % 256 = n / 16777216 by omega, show (n / 16777216) * 256 + n / 65536 % 256 = n / 65536 by omega, show (n / 65536) * 256 + n / 256 % 256 = n / 256 by omega, show (n / 256) * 256 + n % 256 = n by omega]
theorem octets_form (n : Int) (h0 : 0 ≤ n) (h1 : n ≤ 18446744073709551615) : Form n (octets n) := by
  rcases size_cases n h0 h1 with ⟨hs, ha, hb⟩ | ⟨hs, ha, hb⟩ | ⟨hs, ha, hb⟩ | ⟨hs, ha, hb⟩ | ⟨hs, ha, hb⟩ | ⟨hs, ha, hb⟩ | ⟨hs, ha, hb⟩ | ⟨hs, ha, hb⟩ | ⟨hs, ha, hb⟩
  · have e : octets n = octs n 1 := by unfold octets; rw [hs]; rfl
    rw [e]; exact form1 n ha hb hs
  · have e : octets n = octs n 2 := by unfold octets; rw [hs]; rfl
    rw [e]; exact form2 n ha hb hs
  · have e : octets n = octs n 3 := by unfold octets; rw [hs]; rfl
    rw [e]; exact form3 n ha hb hs
  · have e : octets n = octs n 4 := by unfold octets; rw [hs]; rfl
    rw [e]; exact form4 n ha hb hs
  · have e : octets n = octs n 5 := by unfold octets; rw [hs]; rfl
    rw [e]; exact form5 n ha hb hs
  · have e : octets n = octs n 6 := by unfold octets; rw [hs]; rfl
    rw [e]; exact form6 n ha hb hs
  · have e : octets n = octs n 7 := by unfold octets; rw [hs]; rfl
    rw [e]; exact form7 n ha hb hs
  · have e : octets n = octs n 8 := by unfold octets; rw [hs]; rfl
    rw [e]; exact form8 n ha hb hs
  · have e : octets n = octs n 9 := by unfold octets; rw [hs]; rfl
    rw [e]; exact form9 n ha hb hs
theorem getOf_cut (n : Int) (h0 : 0 ≤ n) (h1 : n ≤ 18446744073709551615) (j : Nat) (hj : j < (octets n).length) : getRet ((octets n).take j) = .tuple #[.int .u64 0, .int .i64 0, .int .i64 8] := by
  have F := octets_form n h0 h1
  obtain ⟨f, r, hl, ht, _⟩ := F.first
  have hs := F.size
  rw [hl] at hj hs ⊢
  cases j with
  | zero => rfl
  | succ i =>
    rw [List.take_succ_cons]
    apply getRet_short
    rw [ht, ← hs]
    simp only [List.length_cons] at hj ⊢
    have := List.length_take_le i r
    have : (r.take i).length ≤ i := List.length_take_le _ _
    omega
theorem getOf_back (n : Int) (h0 : 0 ≤ n) (h1 : n ≤ 18446744073709551615) (more : List Int) : getRet (octets n ++ more) = .tuple #[.int .u64 n, .int .i64 (sizeOf n), .int .i64 0] := by
  have F := octets_form n h0 h1
  obtain ⟨f, r, hl, ht, ha⟩ := F.first
  have hs := F.size
  rw [hl] at hs ⊢
  simp only [List.length_cons] at hs
  rw [List.cons_append]
  refine getRet_good f (r ++ more) (sizeOf n) n ht ?_ ?_ ?_
  · simp only [List.length_append]; omega
  · have e : (sizeOf n - 1).toNat = r.length := by omega
    rw [e, List.take_left]
    exact ha
  · omega
end Go.Proofs.YtnchjlimkgbfpaaGreatDoor
