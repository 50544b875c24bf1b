
import Derived.Test.YtnchjlimkgbfpaaGreatDoorE07
namespace Go.Proofs.YtnchjlimkgbfpaaGreatDoor
open Go.RowKit
set_option linter.unusedVariables false
set_option maxRecDepth 20000
def GetSays (l : List Int) : Prop :=
  getRet l = .tuple #[.int .u64 0, .int .i64 0, .int .i64 8] ∨ getRet l = .tuple #[.int .u64 0, .int .i64 0, .int .i64 4] ∨
  ∃ (n : Int) (j : Nat), getRet l = .tuple #[.int .u64 n, .int .i64 j, .int .i64 0] ∧ 0 ≤ n ∧ n ≤ 18446744073709551615 ∧ 1 ≤ j ∧ j ≤ l.length ∧ octets n = l.take j ∧ j ≤ 9
theorem again1 (f : Int)  (r : List Int) (hlo : 0 ≤ f) (hhi : f ≤ 127) (ht : toldOf f = 1)  : GetSays (f :: r) := by
  have hl : ¬ (((r).length : Int) + 1) < 1 := by omega
  have hN : acc (f - leadOf 1) ((r).take ((1 : Int) - 1).toNat) = f := by rw [show leadOf 1 = 0 by decide +kernel]; simp [acc]
  by_cases hs : sizeOf (f) < 1
  · exact .inr (.inl (getRet_bad f (r) 1 _ ht hl hN hs))
  have hk : sizeOf (f) = 1 := by
    rcases size_cases (f) (by omega) (by omega) with ⟨s, u, v⟩ | ⟨s, u, v⟩ | ⟨s, u, v⟩ | ⟨s, u, v⟩ | ⟨s, u, v⟩ | ⟨s, u, v⟩ | ⟨s, u, v⟩ | ⟨s, u, v⟩ | ⟨s, u, v⟩ <;> omega
  refine .inr (.inr ⟨f, 1, getRet_good f (r) 1 _ ht hl hN hs, by omega, by omega, by omega, by simp only [List.length_cons]; omega, ?_, by omega⟩)
  have e : octets (f) = octs (f) 1 := by unfold octets; rw [hk]; rfl
  rw [e]
  rfl
theorem again2 (f : Int) (x1 : Int) (r : List Int) (hlo : 128 ≤ f) (hhi : f ≤ 191) (ht : toldOf f = 2) (p1 : 0 ≤ x1 ∧ x1 ≤ 255) : GetSays (f :: x1 :: r) := by
  have hl : ¬ (((x1 :: r).length : Int) + 1) < 2 := by simp only [List.length_cons]; omega
  have hN : acc (f - leadOf 2) ((x1 :: r).take ((2 : Int) - 1).toNat) = (f - 128) * 256 + x1 := by rw [show leadOf 2 = 128 by decide +kernel]; rfl
  by_cases hs : sizeOf ((f - 128) * 256 + x1) < 2
  · exact .inr (.inl (getRet_bad f (x1 :: r) 2 _ ht hl hN hs))
  have hk : sizeOf ((f - 128) * 256 + x1) = 2 := by
    rcases size_cases ((f - 128) * 256 + x1) (by omega) (by omega) with ⟨s, u, v⟩ | ⟨s, u, v⟩ | ⟨s, u, v⟩ | ⟨s, u, v⟩ | ⟨s, u, v⟩ | ⟨s, u, v⟩ | ⟨s, u, v⟩ | ⟨s, u, v⟩ | ⟨s, u, v⟩ <;> omega
  refine .inr (.inr ⟨(f - 128) * 256 + x1, 2, getRet_good f (x1 :: r) 2 _ ht hl hN hs, by omega, by omega, by omega, by simp only [List.length_cons]; omega, ?_, by omega⟩)
  have e : octets ((f - 128) * 256 + x1) = octs ((f - 128) * 256 + x1) 2 := by unfold octets; rw [hk]; rfl
  rw [e]
  show [128 + ((f - 128) * 256 + x1) / 256, ((f - 128) * 256 + x1) % 256] = [f, x1]
  rw [show 128 + ((f - 128) * 256 + x1) / 256 = f by omega, show ((f - 128) * 256 + x1) % 256 = x1 by omega]
theorem again3 (f : Int) (x1 x2 : Int) (r : List Int) (hlo : 192 ≤ f) (hhi : f ≤ 223) (ht : toldOf f = 3) (p1 : 0 ≤ x1 ∧ x1 ≤ 255) (p2 : 0 ≤ x2 ∧ x2 ≤ 255) : GetSays (f :: x1 :: x2 :: r) := by
  have hl : ¬ (((x1 :: x2 :: r).length : Int) + 1) < 3 := by simp only [List.length_cons]; omega
  have hN : acc (f - leadOf 3) ((x1 :: x2 :: r).take ((3 : Int) - 1).toNat) = ((f - 192) * 256 + x1) * 256 + x2 := by rw [show leadOf 3 = 192 by decide +kernel]; rfl
  by_cases hs : sizeOf (((f - 192) * 256 + x1) * 256 + x2) < 3
  · exact .inr (.inl (getRet_bad f (x1 :: x2 :: r) 3 _ ht hl hN hs))
  have hk : sizeOf (((f - 192) * 256 + x1) * 256 + x2) = 3 := by
    rcases size_cases (((f - 192) * 256 + x1) * 256 + x2) (by omega) (by omega) with ⟨s, u, v⟩ | ⟨s, u, v⟩ | ⟨s, u, v⟩ | ⟨s, u, v⟩ | ⟨s, u, v⟩ | ⟨s, u, v⟩ | ⟨s, u, v⟩ | ⟨s, u, v⟩ | ⟨s, u, v⟩ <;> omega
  refine .inr (.inr ⟨((f - 192) * 256 + x1) * 256 + x2, 3, getRet_good f (x1 :: x2 :: r) 3 _ ht hl hN hs, by omega, by omega, by omega, by simp only [List.length_cons]; omega, ?_, by omega⟩)
  have e : octets (((f - 192) * 256 + x1) * 256 + x2) = octs (((f - 192) * 256 + x1) * 256 + x2) 3 := by unfold octets; rw [hk]; rfl
  rw [e]
  show [192 + (((f - 192) * 256 + x1) * 256 + x2) / 65536, (((f - 192) * 256 + x1) * 256 + x2) / 256 % 256, (((f - 192) * 256 + x1) * 256 + x2) % 256] = [f, x1, x2]
  rw [show 192 + (((f - 192) * 256 + x1) * 256 + x2) / 65536 = f by omega, show (((f - 192) * 256 + x1) * 256 + x2) / 256 % 256 = x1 by omega, show (((f - 192) * 256 + x1) * 256 + x2) % 256 = x2 by omega]
theorem again4 (f : Int) (x1 x2 x3 : Int) (r : List Int) (hlo : 224 ≤ f) (hhi : f ≤ 239) (ht : toldOf f = 4) (p1 : 0 ≤ x1 ∧ x1 ≤ 255) (p2 : 0 ≤ x2 ∧ x2 ≤ 255) (p3 : 0 ≤ x3 ∧ x3 ≤ 255) : GetSays (f :: x1 :: x2 :: x3 :: r) := by
  have hl : ¬ (((x1 :: x2 :: x3 :: r).length : Int) + 1) < 4 := by simp only [List.length_cons]; omega
  have hN : acc (f - leadOf 4) ((x1 :: x2 :: x3 :: r).take ((4 : Int) - 1).toNat) = (((f - 224) * 256 + x1) * 256 + x2) * 256 + x3 := by rw [show leadOf 4 = 224 by decide +kernel]; rfl
  by_cases hs : sizeOf ((((f - 224) * 256 + x1) * 256 + x2) * 256 + x3) < 4
  · exact .inr (.inl (getRet_bad f (x1 :: x2 :: x3 :: r) 4 _ ht hl hN hs))
  have hk : sizeOf ((((f - 224) * 256 + x1) * 256 + x2) * 256 + x3) = 4 := by
    rcases size_cases ((((f - 224) * 256 + x1) * 256 + x2) * 256 + x3) (by omega) (by omega) with ⟨s, u, v⟩ | ⟨s, u, v⟩ | ⟨s, u, v⟩ | ⟨s, u, v⟩ | ⟨s, u, v⟩ | ⟨s, u, v⟩ | ⟨s, u, v⟩ | ⟨s, u, v⟩ | ⟨s, u, v⟩ <;> omega
  refine .inr (.inr ⟨(((f - 224) * 256 + x1) * 256 + x2) * 256 + x3, 4, getRet_good f (x1 :: x2 :: x3 :: r) 4 _ ht hl hN hs, by omega, by omega, by omega, by simp only [List.length_cons]; omega, ?_, by omega⟩)
  have e : octets ((((f - 224) * 256 + x1) * 256 + x2) * 256 + x3) = octs ((((f - 224) * 256 + x1) * 256 + x2) * 256 + x3) 4 := by unfold octets; rw [hk]; rfl
  rw [e]
  show [224 + ((((f - 224) * 256 + x1) * 256 + x2) * 256 + x3) / 16777216, ((((f - 224) * 256 + x1) * 256 + x2) * 256 + x3) / 65536 % 256, ((((f - 224) * 256 + x1) * 256 + x2) * 256 + x3) / 256 % 256, ((((f - 224) * 256 + x1) * 256 + x2) * 256 + x3) % 256] = [f, x1, x2, x3]
  rw [show 224 + ((((f - 224) * 256 + x1) * 256 + x2) * 256 + x3) / 16777216 = f by omega, show ((((f - 224) * 256 + x1) * 256 + x2) * 256 + x3) / 65536 % 256 = x1 by omega, show ((((f - 224) * 256 + x1) * 256 + x2) * 256 + x3) / 256 % 256 = x2 by omega, show ((((f - 224) * 256 + x1) * 256 + x2) * 256 + x3) % 256 = x3 by omega]
theorem again5 (f : Int) (x1 x2 x3 x4 : Int) (r : List Int) (hlo : 240 ≤ f) (hhi : f ≤ 247) (ht : toldOf f = 5) (p1 : 0 ≤ x1 ∧ x1 ≤ 255) (p2 : 0 ≤ x2 ∧ x2 ≤ 255) (p3 : 0 ≤ x3 ∧ x3 ≤ 255) (p4 : 0 ≤ x4 ∧ x4 ≤ 255) : GetSays (f :: x1 :: x2 :: x3 :: x4 :: r) := by
  have hl : ¬ (((x1 :: x2 :: x3 :: x4 :: r).length : Int) + 1) < 5 := by simp only [List.length_cons]; omega
  have hN : acc (f - leadOf 5) ((x1 :: x2 :: x3 :: x4 :: r).take ((5 : Int) - 1).toNat) = ((((f - 240) * 256 + x1) * 256 + x2) * 256 + x3) * 256 + x4 := by rw [show leadOf 5 = 240 by decide +kernel]; rfl
  by_cases hs : sizeOf (((((f - 240) * 256 + x1) * 256 + x2) * 256 + x3) * 256 + x4) < 5
  · exact .inr (.inl (getRet_bad f (x1 :: x2 :: x3 :: x4 :: r) 5 _ ht hl hN hs))
  have hk : sizeOf (((((f - 240) * 256 + x1) * 256 + x2) * 256 + x3) * 256 + x4) = 5 := by
    rcases size_cases (((((f - 240) * 256 + x1) * 256 + x2) * 256 + x3) * 256 + x4) (by omega) (by omega) with ⟨s, u, v⟩ | ⟨s, u, v⟩ | ⟨s, u, v⟩ | ⟨s, u, v⟩ | ⟨s, u, v⟩ | ⟨s, u, v⟩ | ⟨s, u, v⟩ | ⟨s, u, v⟩ | ⟨s, u, v⟩ <;> omega
  refine .inr (.inr ⟨((((f - 240) * 256 + x1) * 256 + x2) * 256 + x3) * 256 + x4, 5, getRet_good f (x1 :: x2 :: x3 :: x4 :: r) 5 _ ht hl hN hs, by omega, by omega, by omega, by simp only [List.length_cons]; omega, ?_, by omega⟩)
  have e : octets (((((f - 240) * 256 + x1) * 256 + x2) * 256 + x3) * 256 + x4) = octs (((((f - 240) * 256 + x1) * 256 + x2) * 256 + x3) * 256 + x4) 5 := by unfold octets; rw [hk]; rfl
  rw [e]
  show [240 + (((((f - 240) * 256 + x1) * 256 + x2) * 256 + x3) * 256 + x4) / 4294967296, (((((f - 240) * 256 + x1) * 256 + x2) * 256 + x3) * 256 + x4) / 16777216 % 256, (((((f - 240) * 256 + x1) * 256 + x2) * 256 + x3) * 256 + x4) / 65536 % 256, (((((f - 240) * 256 + x1) * 256 + x2) * 256 + x3) * 256 + x4) / 256 % 256, (((((f - 240) * 256 + x1) * 256 + x2) * 256 + x3) * 256 + x4) % 256] = [f, x1, x2, x3, x4]
  rw [show 240 + (((((f - 240) * 256 + x1) * 256 + x2) * 256 + x3) * 256 + x4) / 4294967296 = f by omega, show (((((f - 240) * 256 + x1) * 256 + x2) * 256 + x3) * 256 + x4) / 16777216 % 256 = x1 by omega, show (((((f - 240) * 256 + x1) * 256 + x2) * 256 + x3) * 256 + x4) / 65536 % 256 = x2 by omega, show (((((f - 240) * 256 + x1) * 256 + x2) * 256 + x3) * 256 + x4) / 256 % 256 = x3 by omega, show (((((f - 240) * 256 + x1) * 256 + x2) * 256 + x3) * 256 + x4) % 256 = x4 by omega]
theorem again6 (f : Int) (x1 x2 x3 x4 x5 : Int) (r : List Int) (hlo : 248 ≤ f) (hhi : f ≤ 251) (ht : toldOf f = 6) (p1 : 0 ≤ x1 ∧ x1 ≤ 255) (p2 : 0 ≤ x2 ∧ x2 ≤ 255) (p3 : 0 ≤ x3 ∧ x3 ≤ 255) (p4 : 0 ≤ x4 ∧ x4 ≤ 255) (p5 : 0 ≤ x5 ∧ x5 ≤ 255) : GetSays (f :: x1 :: x2 :: x3 :: x4 :: x5 :: r) := by
  have hl : ¬ (((x1 :: x2 :: x3 :: x4 :: x5 :: r).length : Int) + 1) < 6 := by simp only [List.length_cons]; omega
  have hN : acc (f - leadOf 6) ((x1 :: x2 :: x3 :: x4 :: x5 :: r).take ((6 : Int) - 1).toNat) = (((((f - 248) * 256 + x1) * 256 + x2) * 256 + x3) * 256 + x4) * 256 + x5 := by rw [show leadOf 6 = 248 by decide +kernel]; rfl
  by_cases hs : sizeOf ((((((f - 248) * 256 + x1) * 256 + x2) * 256 + x3) * 256 + x4) * 256 + x5) < 6
  · exact .inr (.inl (getRet_bad f (x1 :: x2 :: x3 :: x4 :: x5 :: r) 6 _ ht hl hN hs))
  have hk : sizeOf ((((((f - 248) * 256 + x1) * 256 + x2) * 256 + x3) * 256 + x4) * 256 + x5) = 6 := by
    rcases size_cases ((((((f - 248) * 256 + x1) * 256 + x2) * 256 + x3) * 256 + x4) * 256 + x5) (by omega) (by omega) with ⟨s, u, v⟩ | ⟨s, u, v⟩ | ⟨s, u, v⟩ | ⟨s, u, v⟩ | ⟨s, u, v⟩ | ⟨s, u, v⟩ | ⟨s, u, v⟩ | ⟨s, u, v⟩ | ⟨s, u, v⟩ <;> omega
  refine .inr (.inr ⟨(((((f - 248) * 256 + x1) * 256 + x2) * 256 + x3) * 256 + x4) * 256 + x5, 6, getRet_good f (x1 :: x2 :: x3 :: x4 :: x5 :: r) 6 _ ht hl hN hs, by omega, by omega, by omega, by simp only [List.length_cons]; omega, ?_, by omega⟩)
  have e : octets ((((((f - 248) * 256 + x1) * 256 + x2) * 256 + x3) * 256 + x4) * 256 + x5) = octs ((((((f - 248) * 256 + x1) * 256 + x2) * 256 + x3) * 256 + x4) * 256 + x5) 6 := by unfold octets; rw [hk]; rfl
  rw [e]
  show [248 + ((((((f - 248) * 256 + x1) * 256 + x2) * 256 + x3) * 256 + x4) * 256 + x5) / 1099511627776, ((((((f - 248) * 256 + x1) * 256 + x2) * 256 + x3) * 256 + x4) * 256 + x5) / 4294967296 % 256, ((((((f - 248) * 256 + x1) * 256 + x2) * 256 + x3) * 256 + x4) * 256 + x5) / 16777216 % 256, ((((((f - 248) * 256 + x1) * 256 + x2) * 256 + x3) * 256 + x4) * 256 + x5) / 65536 % 256, ((((((f - 248) * 256 + x1) * 256 + x2) * 256 + x3) * 256 + x4) * 256 + x5) / 256 % 256, ((((((f - 248) * 256 + x1) * 256 + x2) * 256 + x3) * 256 + x4) * 256 + x5) % 256] = [f, x1, x2, x3, x4, x5]
  rw [show 248 + ((((((f - 248) * 256 + x1) * 256 + x2) * 256 + x3) * 256 + x4) * 256 + x5) / 1099511627776 = f by omega, show ((((((f - 248) * 256 + x1) * 256 + x2) * 256 + x3) * 256 + x4) * 256 + x5) / 4294967296 % 256 = x1 by omega, show ((((((f - 248) * 256 + x1) * 256 + x2) * 256 + x3) * 256 + x4) * 256 + x5) / 16777216 % 256 = x2 by omega, show ((((((f - 248) * 256 + x1) * 256 + x2) * 256 + x3) * 256 + x4) * 256 + x5) / 65536 % 256 = x3 by omega, show ((((((f - 248) * 256 + x1) * 256 + x2) * 256 + x3) * 256 + x4) * 256 + x5) / 256 % 256 = x4 by omega, show ((((((f - 248) * 256 + x1) * 256 + x2) * 256 + x3) * 256 + x4) * 256 + x5) % 256 = x5 by omega]
theorem again7 (f : Int) (x1 x2 x3 x4 x5 x6 : Int) (r : List Int) (hlo : 252 ≤ f) (hhi : f ≤ 253) (ht : toldOf f = 7) (p1 : 0 ≤ x1 ∧ x1 ≤ 255) (p2 : 0 ≤ x2 ∧ x2 ≤ 255) (p3 : 0 ≤ x3 ∧ x3 ≤ 255) (p4 : 0 ≤ x4 ∧ x4 ≤ 255) (p5 : 0 ≤ x5 ∧ x5 ≤ 255) (p6 : 0 ≤ x6 ∧ x6 ≤ 255) : GetSays (f :: x1 :: x2 :: x3 :: x4 :: x5 :: x6 :: r) := by
  have hl : ¬ (((x1 :: x2 :: x3 :: x4 :: x5 :: x6 :: r).length : Int) + 1) < 7 := by simp only [List.length_cons]; omega
  have hN : acc (f - leadOf 7) ((x1 :: x2 :: x3 :: x4 :: x5 :: x6 :: r).take ((7 : Int) - 1).toNat) = ((((((f - 252) * 256 + x1) * 256 + x2) * 256 + x3) * 256 + x4) * 256 + x5) * 256 + x6 := by rw [show leadOf 7 = 252 by decide +kernel]; rfl
  by_cases hs : sizeOf (((((((f - 252) * 256 + x1) * 256 + x2) * 256 + x3) * 256 + x4) * 256 + x5) * 256 + x6) < 7
  · exact .inr (.inl (getRet_bad f (x1 :: x2 :: x3 :: x4 :: x5 :: x6 :: r) 7 _ ht hl hN hs))
  have hk : sizeOf (((((((f - 252) * 256 + x1) * 256 + x2) * 256 + x3) * 256 + x4) * 256 + x5) * 256 + x6) = 7 := by
    rcases size_cases (((((((f - 252) * 256 + x1) * 256 + x2) * 256 + x3) * 256 + x4) * 256 + x5) * 256 + x6) (by omega) (by omega) with ⟨s, u, v⟩ | ⟨s, u, v⟩ | ⟨s, u, v⟩ | ⟨s, u, v⟩ | ⟨s, u, v⟩ | ⟨s, u, v⟩ | ⟨s, u, v⟩ | ⟨s, u, v⟩ | ⟨s, u, v⟩ <;> omega
  refine .inr (.inr ⟨((((((f - 252) * 256 + x1) * 256 + x2) * 256 + x3) * 256 + x4) * 256 + x5) * 256 + x6, 7, getRet_good f (x1 :: x2 :: x3 :: x4 :: x5 :: x6 :: r) 7 _ ht hl hN hs, by omega, by omega, by omega, by simp only [List.length_cons]; omega, ?_, by omega⟩)
  have e : octets (((((((f - 252) * 256 + x1) * 256 + x2) * 256 + x3) * 256 + x4) * 256 + x5) * 256 + x6) = octs (((((((f - 252) * 256 + x1) * 256 + x2) * 256 + x3) * 256 + x4) * 256 + x5) * 256 + x6) 7 := by unfold octets; rw [hk]; rfl
  rw [e]
  show [252 + (((((((f - 252) * 256 + x1) * 256 + x2) * 256 + x3) * 256 + x4) * 256 + x5) * 256 + x6) / 281474976710656, (((((((f - 252) * 256 + x1) * 256 + x2) * 256 + x3) * 256 + x4) * 256 + x5) * 256 + x6) / 1099511627776 % 256, (((((((f - 252) * 256 + x1) * 256 + x2) * 256 + x3) * 256 + x4) * 256 + x5) * 256 + x6) / 4294967296 % 256, (((((((f - 252) * 256 + x1) * 256 + x2) * 256 + x3) * 256 + x4) * 256 + x5) * 256 + x6) / 16777216 % 256, (((((((f - 252) * 256 + x1) * 256 + x2) * 256 + x3) * 256 + x4) * 256 + x5) * 256 + x6) / 65536 % 256, (((((((f - 252) * 256 + x1) * 256 + x2) * 256 + x3) * 256 + x4) * 256 + x5) * 256 + x6) / 256 % 256, (((((((f - 252) * 256 + x1) * 256 + x2) * 256 + x3) * 256 + x4) * 256 + x5) * 256 + x6) % 256] = [f, x1, x2, x3, x4, x5, x6]
  rw [show 252 + (((((((f - 252) * 256 + x1) * 256 + x2) * 256 + x3) * 256 + x4) * 256 + x5) * 256 + x6) / 281474976710656 = f by omega, show (((((((f - 252) * 256 + x1) * 256 + x2) * 256 + x3) * 256 + x4) * 256 + x5) * 256 + x6) / 1099511627776 % 256 = x1 by omega, show (((((((f - 252) * 256 + x1) * 256 + x2) * 256 + x3) * 256 + x4) * 256 + x5) * 256 + x6) / 4294967296 % 256 = x2 by omega, show (((((((f - 252) * 256 + x1) * 256 + x2) * 256 + x3) * 256 + x4) * 256 + x5) * 256 + x6) / 16777216 % 256 = x3 by omega, show (((((((f - 252) * 256 + x1) * 256 + x2) * 256 + x3) * 256 + x4) * 256 + x5) * 256 + x6) / 65536 % 256 = x4 by omega, show (((((((f - 252) * 256 + x1) * 256 + x2) * 256 + x3) * 256 + x4) * 256 + x5) * 256 + x6) / 256 % 256 = x5 by omega, show (((((((f - 252) * 256 + x1) * 256 + x2) * 256 + x3) * 256 + x4) * 256 + x5) * 256 + x6) % 256 = x6 by omega]
theorem again8 (f : Int) (x1 x2 x3 x4 x5 x6 x7 : Int) (r : List Int) (hlo : 254 ≤ f) (hhi : f ≤ 254) (ht : toldOf f = 8) (p1 : 0 ≤ x1 ∧ x1 ≤ 255) (p2 : 0 ≤ x2 ∧ x2 ≤ 255) (p3 : 0 ≤ x3 ∧ x3 ≤ 255) (p4 : 0 ≤ x4 ∧ x4 ≤ 255) (p5 : 0 ≤ x5 ∧ x5 ≤ 255) (p6 : 0 ≤ x6 ∧ x6 ≤ 255) (p7 : 0 ≤ x7 ∧ x7 ≤ 255) : GetSays (f :: x1 :: x2 :: x3 :: x4 :: x5 :: x6 :: x7 :: r) := by
  have hl : ¬ (((x1 :: x2 :: x3 :: x4 :: x5 :: x6 :: x7 :: r).length : Int) + 1) < 8 := by simp only [List.length_cons]; omega
  have hN : acc (f - leadOf 8) ((x1 :: x2 :: x3 :: x4 :: x5 :: x6 :: x7 :: r).take ((8 : Int) - 1).toNat) = (((((((f - 254) * 256 + x1) * 256 + x2) * 256 + x3) * 256 + x4) * 256 + x5) * 256 + x6) * 256 + x7 := by rw [show leadOf 8 = 254 by decide +kernel]; rfl
  by_cases hs : sizeOf ((((((((f - 254) * 256 + x1) * 256 + x2) * 256 + x3) * 256 + x4) * 256 + x5) * 256 + x6) * 256 + x7) < 8
  · exact .inr (.inl (getRet_bad f (x1 :: x2 :: x3 :: x4 :: x5 :: x6 :: x7 :: r) 8 _ ht hl hN hs))
  have hk : sizeOf ((((((((f - 254) * 256 + x1) * 256 + x2) * 256 + x3) * 256 + x4) * 256 + x5) * 256 + x6) * 256 + x7) = 8 := by
    rcases size_cases ((((((((f - 254) * 256 + x1) * 256 + x2) * 256 + x3) * 256 + x4) * 256 + x5) * 256 + x6) * 256 + x7) (by omega) (by omega) with ⟨s, u, v⟩ | ⟨s, u, v⟩ | ⟨s, u, v⟩ | ⟨s, u, v⟩ | ⟨s, u, v⟩ | ⟨s, u, v⟩ | ⟨s, u, v⟩ | ⟨s, u, v⟩ | ⟨s, u, v⟩ <;> omega
  refine .inr (.inr ⟨(((((((f - 254) * 256 + x1) * 256 + x2) * 256 + x3) * 256 + x4) * 256 + x5) * 256 + x6) * 256 + x7, 8, getRet_good f (x1 :: x2 :: x3 :: x4 :: x5 :: x6 :: x7 :: r) 8 _ ht hl hN hs, by omega, by omega, by omega, by simp only [List.length_cons]; omega, ?_, by omega⟩)
  have e : octets ((((((((f - 254) * 256 + x1) * 256 + x2) * 256 + x3) * 256 + x4) * 256 + x5) * 256 + x6) * 256 + x7) = octs ((((((((f - 254) * 256 + x1) * 256 + x2) * 256 + x3) * 256 + x4) * 256 + x5) * 256 + x6) * 256 + x7) 8 := by unfold octets; rw [hk]; rfl
  rw [e]
  show [254 + ((((((((f - 254) * 256 + x1) * 256 + x2) * 256 + x3) * 256 + x4) * 256 + x5) * 256 + x6) * 256 + x7) / 72057594037927936, ((((((((f - 254) * 256 + x1) * 256 + x2) * 256 + x3) * 256 + x4) * 256 + x5) * 256 + x6) * 256 + x7) / 281474976710656 % 256, ((((((((f - 254) * 256 + x1) * 256 + x2) * 256 + x3) * 256 + x4) * 256 + x5) * 256 + x6) * 256 + x7) / 1099511627776 % 256, ((((((((f - 254) * 256 + x1) * 256 + x2) * 256 + x3) * 256 + x4) * 256 + x5) * 256 + x6) * 256 + x7) / 4294967296 % 256, ((((((((f - 254) * 256 + x1) * 256 + x2) * 256 + x3) * 256 + x4) * 256 + x5) * 256 + x6) * 256 + x7) / 16777216 % 256, ((((((((f - 254) * 256 + x1) * 256 + x2) * 256 + x3) * 256 + x4) * 256 + x5) * 256 + x6) * 256 + x7) / 65536 % 256, ((((((((f - 254) * 256 + x1) * 256 + x2) * 256 + x3) * 256 + x4) * 256 + x5) * 256 + x6) * 256 + x7) / 256 % 256, ((((((((f - 254) * 256 + x1) * 256 + x2) * 256 + x3) * 256 + x4) * 256 + x5) * 256 + x6) * 256 + x7) % 256] = [f, x1, x2, x3, x4, x5, x6, x7]
  rw [show 254 + ((((((((f - 254) * 256 + x1) * 256 + x2) * 256 + x3) * 256 + x4) * 256 + x5) * 256 + x6) * 256 + x7) / 72057594037927936 = f by omega, show ((((((((f - 254) * 256 + x1) * 256 + x2) * 256 + x3) * 256 + x4) * 256 + x5) * 256 + x6) * 256 + x7) / 281474976710656 % 256 = x1 by omega, show ((((((((f - 254) * 256 + x1) * 256 + x2) * 256 + x3) * 256 + x4) * 256 + x5) * 256 + x6) * 256 + x7) / 1099511627776 % 256 = x2 by omega, show ((((((((f - 254) * 256 + x1) * 256 + x2) * 256 + x3) * 256 + x4) * 256 + x5) * 256 + x6) * 256 + x7) / 4294967296 % 256 = x3 by omega, show ((((((((f - 254) * 256 + x1) * 256 + x2) * 256 + x3) * 256 + x4) * 256 + x5) * 256 + x6) * 256 + x7) / 16777216 % 256 = x4 by omega, show ((((((((f - 254) * 256 + x1) * 256 + x2) * 256 + x3) * 256 + x4) * 256 + x5) * 256 + x6) * 256 + x7) / 65536 % 256 = x5 by omega, show ((((((((f - 254) * 256 + x1) * 256 + x2) * 256 + x3) * 256 + x4) * 256 + x5) * 256 + x6) * 256 + x7) / 256 % 256 = x6 by omega, show ((((((((f - 254) * 256 + x1) * 256 + x2) * 256 + x3) * 256 + x4) * 256 + x5) * 256 + x6) * 256 + x7) % 256 = x7 by omega]
theorem again9 (f : Int) (x1 x2 x3 x4 x5 x6 x7 x8 : Int) (r : List Int) (hlo : 255 ≤ f) (hhi : f ≤ 255) (ht : toldOf f = 9) (p1 : 0 ≤ x1 ∧ x1 ≤ 255) (p2 : 0 ≤ x2 ∧ x2 ≤ 255) (p3 : 0 ≤ x3 ∧ x3 ≤ 255) (p4 : 0 ≤ x4 ∧ x4 ≤ 255) (p5 : 0 ≤ x5 ∧ x5 ≤ 255) (p6 : 0 ≤ x6 ∧ x6 ≤ 255) (p7 : 0 ≤ x7 ∧ x7 ≤ 255) (p8 : 0 ≤ x8 ∧ x8 ≤ 255) : GetSays (f :: x1 :: x2 :: x3 :: x4 :: x5 :: x6 :: x7 :: x8 :: r) := by
  have hl : ¬ (((x1 :: x2 :: x3 :: x4 :: x5 :: x6 :: x7 :: x8 :: r).length : Int) + 1) < 9 := by simp only [List.length_cons]; omega
  have hN : acc (f - leadOf 9) ((x1 :: x2 :: x3 :: x4 :: x5 :: x6 :: x7 :: x8 :: r).take ((9 : Int) - 1).toNat) = ((((((((f - 255) * 256 + x1) * 256 + x2) * 256 + x3) * 256 + x4) * 256 + x5) * 256 + x6) * 256 + x7) * 256 + x8 := by rw [show leadOf 9 = 255 by decide +kernel]; rfl
  by_cases hs : sizeOf (((((((((f - 255) * 256 + x1) * 256 + x2) * 256 + x3) * 256 + x4) * 256 + x5) * 256 + x6) * 256 + x7) * 256 + x8) < 9
  · exact .inr (.inl (getRet_bad f (x1 :: x2 :: x3 :: x4 :: x5 :: x6 :: x7 :: x8 :: r) 9 _ ht hl hN hs))
  have hk : sizeOf (((((((((f - 255) * 256 + x1) * 256 + x2) * 256 + x3) * 256 + x4) * 256 + x5) * 256 + x6) * 256 + x7) * 256 + x8) = 9 := by
    rcases size_cases (((((((((f - 255) * 256 + x1) * 256 + x2) * 256 + x3) * 256 + x4) * 256 + x5) * 256 + x6) * 256 + x7) * 256 + x8) (by omega) (by omega) with ⟨s, u, v⟩ | ⟨s, u, v⟩ | ⟨s, u, v⟩ | ⟨s, u, v⟩ | ⟨s, u, v⟩ | ⟨s, u, v⟩ | ⟨s, u, v⟩ | ⟨s, u, v⟩ | ⟨s, u, v⟩ <;> omega
  refine .inr (.inr ⟨((((((((f - 255) * 256 + x1) * 256 + x2) * 256 + x3) * 256 + x4) * 256 + x5) * 256 + x6) * 256 + x7) * 256 + x8, 9, getRet_good f (x1 :: x2 :: x3 :: x4 :: x5 :: x6 :: x7 :: x8 :: r) 9 _ ht hl hN hs, by omega, by omega, by omega, by simp only [List.length_cons]; omega, ?_, by omega⟩)
  have e : octets (((((((((f - 255) * 256 + x1) * 256 + x2) * 256 + x3) * 256 + x4) * 256 + x5) * 256 + x6) * 256 + x7) * 256 + x8) = octs (((((((((f - 255) * 256 + x1) * 256 + x2) * 256 + x3) * 256 + x4) * 256 + x5) * 256 + x6) * 256 + x7) * 256 + x8) 9 := by unfold octets; rw [hk]; rfl
  rw [e]
  show [(255 : Int), (((((((((f - 255) * 256 + x1) * 256 + x2) * 256 + x3) * 256 + x4) * 256 + x5) * 256 + x6) * 256 + x7) * 256 + x8) / 72057594037927936 % 256, (((((((((f - 255) * 256 + x1) * 256 + x2) * 256 + x3) * 256 + x4) * 256 + x5) * 256 + x6) * 256 + x7) * 256 + x8) / 281474976710656 % 256, (((((((((f - 255) * 256 + x1) * 256 + x2) * 256 + x3) * 256 + x4) * 256 + x5) * 256 + x6) * 256 + x7) * 256 + x8) / 1099511627776 % 256, (((((((((f - 255) * 256 + x1) * 256 + x2) * 256 + x3) * 256 + x4) * 256 + x5) * 256 + x6) * 256 + x7) * 256 + x8) / 4294967296 % 256, (((((((((f - 255) * 256 + x1) * 256 + x2) * 256 + x3) * 256 + x4) * 256 + x5) * 256 + x6) * 256 + x7) * 256 + x8) / 16777216 % 256, (((((((((f - 255) * 256 + x1) * 256 + x2) * 256 + x3) * 256 + x4) * 256 + x5) * 256 + x6) * 256 + x7) * 256 + x8) / 65536 % 256, (((((((((f - 255) * 256 + x1) * 256 + x2) * 256 + x3) * 256 + x4) * 256 + x5) * 256 + x6) * 256 + x7) * 256 + x8) / 256 % 256, (((((((((f - 255) * 256 + x1) * 256 + x2) * 256 + x3) * 256 + x4) * 256 + x5) * 256 + x6) * 256 + x7) * 256 + x8) % 256] = [f, x1, x2, x3, x4, x5, x6, x7, x8]
  rw [show f = 255 by omega, show ((((((((((255 : Int) - 255) * 256 + x1) * 256 + x2) * 256 + x3) * 256 + x4) * 256 + x5) * 256 + x6) * 256 + x7) * 256 + x8) / 72057594037927936 % 256 = x1 by omega, show ((((((((((255 : Int) - 255) * 256 + x1) * 256 + x2) * 256 + x3) * 256 + x4) * 256 + x5) * 256 + x6) * 256 + x7) * 256 + x8) / 281474976710656 % 256 = x2 by omega, show ((((((((((255 : Int) - 255) * 256 + x1) * 256 + x2) * 256 + x3) * 256 + x4) * 256 + x5) * 256 + x6) * 256 + x7) * 256 + x8) / 1099511627776 % 256 = x3 by omega, show ((((((((((255 : Int) - 255) * 256 + x1) * 256 + x2) * 256 + x3) * 256 + x4) * 256 + x5) * 256 + x6) * 256 + x7) * 256 + x8) / 4294967296 % 256 = x4 by omega, show ((((((((((255 : Int) - 255) * 256 + x1) * 256 + x2) * 256 + x3) * 256 + x4) * 256 + x5) * 256 + x6) * 256 + x7) * 256 + x8) / 16777216 % 256 = x5 by omega, show ((((((((((255 : Int) - 255) * 256 + x1) * 256 + x2) * 256 + x3) * 256 + x4) * 256 + x5) * 256 + x6) * 256 + x7) * 256 + x8) / 65536 % 256 = x6 by omega, show ((((((((((255 : Int) - 255) * 256 + x1) * 256 + x2) * 256 + x3) * 256 + x4) * 256 + x5) * 256 + x6) * 256 + x7) * 256 + x8) / 256 % 256 = x7 by omega, show ((((((((((255 : Int) - 255) * 256 + x1) * 256 + x2) * 256 + x3) * 256 + x4) * 256 + x5) * 256 + x6) * 256 + x7) * 256 + x8) % 256 = x8 by omega]
theorem get_says (l : List Int) (hx : ∀ x ∈ l, 0 ≤ x ∧ x ≤ 255) : GetSays l := by
  cases l with
  | nil => exact .inl rfl
  | cons f r =>
    have hf := hx f (by simp)
    by_cases hsh : ((r.length : Int) + 1) < toldOf f
    · exact .inl (getRet_short f r hsh)
    rcases told_cases f hf.1 hf.2 with ⟨ht, hlo, hhi⟩ | ⟨ht, hlo, hhi⟩ | ⟨ht, hlo, hhi⟩ | ⟨ht, hlo, hhi⟩ | ⟨ht, hlo, hhi⟩ | ⟨ht, hlo, hhi⟩ | ⟨ht, hlo, hhi⟩ | ⟨ht, hlo, hhi⟩ | ⟨ht, hlo, hhi⟩
    · rw [ht] at hsh
      exact again1 f  r hlo hhi ht
    · rw [ht] at hsh
      obtain ⟨x1, r1, rfl⟩ : ∃ x t, r = x :: t := cons_of (by omega)
      exact again2 f x1 r1 hlo hhi ht (hx x1 (by simp))
    · rw [ht] at hsh
      obtain ⟨x1, r1, rfl⟩ : ∃ x t, r = x :: t := cons_of (by omega)
      obtain ⟨x2, r2, rfl⟩ : ∃ x t, r1 = x :: t := cons_of (by simp only [List.length_cons] at hsh; omega)
      exact again3 f x1 x2 r2 hlo hhi ht (hx x1 (by simp)) (hx x2 (by simp))
    · rw [ht] at hsh
      obtain ⟨x1, r1, rfl⟩ : ∃ x t, r = x :: t := cons_of (by omega)
      obtain ⟨x2, r2, rfl⟩ : ∃ x t, r1 = x :: t := cons_of (by simp only [List.length_cons] at hsh; omega)
      obtain ⟨x3, r3, rfl⟩ : ∃ x t, r2 = x :: t := cons_of (by simp only [List.length_cons] at hsh; omega)
      exact again4 f x1 x2 x3 r3 hlo hhi ht (hx x1 (by simp)) (hx x2 (by simp)) (hx x3 (by simp))
    · rw [ht] at hsh
      obtain ⟨x1, r1, rfl⟩ : ∃ x t, r = x :: t := cons_of (by omega)
      obtain ⟨x2, r2, rfl⟩ : ∃ x t, r1 = x :: t := cons_of (by simp only [List.length_cons] at hsh; omega)
      obtain ⟨x3, r3, rfl⟩ : ∃ x t, r2 = x :: t := cons_of (by simp only [List.length_cons] at hsh; omega)
      obtain ⟨x4, r4, rfl⟩ : ∃ x t, r3 = x :: t := cons_of (by simp only [List.length_cons] at hsh; omega)
      exact again5 f x1 x2 x3 x4 r4 hlo hhi ht (hx x1 (by simp)) (hx x2 (by simp)) (hx x3 (by simp)) (hx x4 (by simp))
    · rw [ht] at hsh
      obtain ⟨x1, r1, rfl⟩ : ∃ x t, r = x :: t := cons_of (by omega)
      obtain ⟨x2, r2, rfl⟩ : ∃ x t, r1 = x :: t := cons_of (by simp only [List.length_cons] at hsh; omega)
      obtain ⟨x3, r3, rfl⟩ : ∃ x t, r2 = x :: t := cons_of (by simp only [List.length_cons] at hsh; omega)
      obtain ⟨x4, r4, rfl⟩ : ∃ x t, r3 = x :: t := cons_of (by simp only [List.length_cons] at hsh; omega)
      obtain ⟨x5, r5, rfl⟩ : ∃ x t, r4 = x :: t := cons_of (by simp only [List.length_cons] at hsh; omega)
      exact again6 f x1 x2 x3 x4 x5 r5 hlo hhi ht (hx x1 (by simp)) (hx x2 (by simp)) (hx x3 (by simp)) (hx x4 (by simp)) (hx x5 (by simp))
    · rw [ht] at hsh
      obtain ⟨x1, r1, rfl⟩ : ∃ x t, r = x :: t := cons_of (by omega)
      obtain ⟨x2, r2, rfl⟩ : ∃ x t, r1 = x :: t := cons_of (by simp only [List.length_cons] at hsh; omega)
      obtain ⟨x3, r3, rfl⟩ : ∃ x t, r2 = x :: t := cons_of (by simp only [List.length_cons] at hsh; omega)
      obtain ⟨x4, r4, rfl⟩ : ∃ x t, r3 = x :: t := cons_of (by simp only [List.length_cons] at hsh; omega)
      obtain ⟨x5, r5, rfl⟩ : ∃ x t, r4 = x :: t := cons_of (by simp only [List.length_cons] at hsh; omega)
      obtain ⟨x6, r6, rfl⟩ : ∃ x t, r5 = x :: t := cons_of (by simp only [List.length_cons] at hsh; omega)
      exact again7 f x1 x2 x3 x4 x5 x6 r6 hlo hhi ht (hx x1 (by simp)) (hx x2 (by simp)) (hx x3 (by simp)) (hx x4 (by simp)) (hx x5 (by simp)) (hx x6 (by simp))
    · rw [ht] at hsh
      obtain ⟨x1, r1, rfl⟩ : ∃ x t, r = x :: t := cons_of (by omega)
      obtain ⟨x2, r2, rfl⟩ : ∃ x t, r1 = x :: t := cons_of (by simp only [List.length_cons] at hsh; omega)
      obtain ⟨x3, r3, rfl⟩ : ∃ x t, r2 = x :: t := cons_of (by simp only [List.length_cons] at hsh; omega)
      obtain ⟨x4, r4, rfl⟩ : ∃ x t, r3 = x :: t := cons_of (by simp only [List.length_cons] at hsh; omega)
      obtain ⟨x5, r5, rfl⟩ : ∃ x t, r4 = x :: t := cons_of (by simp only [List.length_cons] at hsh; omega)
      obtain ⟨x6, r6, rfl⟩ : ∃ x t, r5 = x :: t := cons_of (by simp only [List.length_cons] at hsh; omega)
      obtain ⟨x7, r7, rfl⟩ : ∃ x t, r6 = x :: t := cons_of (by simp only [List.length_cons] at hsh; omega)
      exact again8 f x1 x2 x3 x4 x5 x6 x7 r7 hlo hhi ht (hx x1 (by simp)) (hx x2 (by simp)) (hx x3 (by simp)) (hx x4 (by simp)) (hx x5 (by simp)) (hx x6 (by simp)) (hx x7 (by simp))
    · rw [ht] at hsh
      obtain ⟨x1, r1, rfl⟩ : ∃ x t, r = x :: t := cons_of (by omega)
      obtain ⟨x2, r2, rfl⟩ : ∃ x t, r1 = x :: t := cons_of (by simp only [List.length_cons] at hsh; omega)
      obtain ⟨x3, r3, rfl⟩ : ∃ x t, r2 = x :: t := cons_of (by simp only [List.length_cons] at hsh; omega)
      obtain ⟨x4, r4, rfl⟩ : ∃ x t, r3 = x :: t := cons_of (by simp only [List.length_cons] at hsh; omega)
      obtain ⟨x5, r5, rfl⟩ : ∃ x t, r4 = x :: t := cons_of (by simp only [List.length_cons] at hsh; omega)
      obtain ⟨x6, r6, rfl⟩ : ∃ x t, r5 = x :: t := cons_of (by simp only [List.length_cons] at hsh; omega)
      obtain ⟨x7, r7, rfl⟩ : ∃ x t, r6 = x :: t := cons_of (by simp only [List.length_cons] at hsh; omega)
      obtain ⟨x8, r8, rfl⟩ : ∃ x t, r7 = x :: t := cons_of (by simp only [List.length_cons] at hsh; omega)
      exact again9 f x1 x2 x3 x4 x5 x6 x7 x8 r8 hlo hhi ht (hx x1 (by simp)) (hx x2 (by simp)) (hx x3 (by simp)) (hx x4 (by simp)) (hx x5 (by simp)) (hx x6 (by simp)) (hx x7 (by simp)) (hx x8 (by simp))
end Go.Proofs.YtnchjlimkgbfpaaGreatDoor
