/- The texts VAgain, SMath, in this order. -/
import Derived.Test.YtekoniaobmapdaaG05

/- What Get takes of any octets is put again as it was: plain lists and numbers, each octet from 0 to 255. -/
namespace Go.Proofs.Ytekoniaobmapdaa
open Go.RowKit
set_option linter.unusedVariables false

/-- How Get ends, over any octets. -/
def GetSays (l : List Int) : Prop :=
  getRet l = .tuple #[.int .u64 0, .int .i64 0, .int .i64 8] ∨ getRet l = .tuple #[.int .u64 0, .int .i64 0, .int .i64 4] ∨
  ∃ (n : Int) (j : Nat), getRet l = .tuple #[.int .u64 n, .int .i64 j, .int .i64 0] ∧ 0 ≤ n ∧ n ≤ 18446744073709551615 ∧ 1 ≤ j ∧ j ≤ l.length ∧ octets n = l.take j ∧ j ≤ 9


theorem again1 (f : Int)  (r : List Int) (hlo : 0 ≤ f) (hhi : f ≤ 127) (ht : toldOf f = 1)  : GetSays (f :: r) := by
  have hl : ¬ (((r).length : Int) + 1) < 1 := by omega
  have hN : acc (f - leadOf 1) ((r).take ((1 : Int) - 1).toNat) = f := by rw [show leadOf 1 = 0 by decide +kernel]; simp [acc]
  by_cases hs : sizeOf (f) < 1
  · exact .inr (.inl (getRet_bad f (r) 1 _ ht hl hN hs))
  have hk : sizeOf (f) = 1 := by
    rcases size_cases (f) (by omega) (by omega) with ⟨s, u, v⟩ | ⟨s, u, v⟩ | ⟨s, u, v⟩ | ⟨s, u, v⟩ | ⟨s, u, v⟩ | ⟨s, u, v⟩ | ⟨s, u, v⟩ | ⟨s, u, v⟩ | ⟨s, u, v⟩ <;> omega
  refine .inr (.inr ⟨f, 1, getRet_good f (r) 1 _ ht hl hN hs, by omega, by omega, by omega, by simp only [List.length_cons]; omega, ?_, by omega⟩)
  have e : octets (f) = octs (f) 1 := by unfold octets; rw [hk]; rfl
  rw [e]
  rfl

theorem again2 (f : Int) (x1 : Int) (r : List Int) (hlo : 128 ≤ f) (hhi : f ≤ 191) (ht : toldOf f = 2) (p1 : 0 ≤ x1 ∧ x1 ≤ 255) : GetSays (f :: x1 :: r) := by
  have hl : ¬ (((x1 :: r).length : Int) + 1) < 2 := by simp only [List.length_cons]; omega
  have hN : acc (f - leadOf 2) ((x1 :: r).take ((2 : Int) - 1).toNat) = (f - 128) * 256 + x1 := by rw [show leadOf 2 = 128 by decide +kernel]; rfl
  by_cases hs : sizeOf ((f - 128) * 256 + x1) < 2
  · exact .inr (.inl (getRet_bad f (x1 :: r) 2 _ ht hl hN hs))
  have hk : sizeOf ((f - 128) * 256 + x1) = 2 := by
    rcases size_cases ((f - 128) * 256 + x1) (by omega) (by omega) with ⟨s, u, v⟩ | ⟨s, u, v⟩ | ⟨s, u, v⟩ | ⟨s, u, v⟩ | ⟨s, u, v⟩ | ⟨s, u, v⟩ | ⟨s, u, v⟩ | ⟨s, u, v⟩ | ⟨s, u, v⟩ <;> omega
  refine .inr (.inr ⟨(f - 128) * 256 + x1, 2, getRet_good f (x1 :: r) 2 _ ht hl hN hs, by omega, by omega, by omega, by simp only [List.length_cons]; omega, ?_, by omega⟩)
  have e : octets ((f - 128) * 256 + x1) = octs ((f - 128) * 256 + x1) 2 := by unfold octets; rw [hk]; rfl
  rw [e]
  show [128 + ((f - 128) * 256 + x1) / 256, ((f - 128) * 256 + x1) % 256] = [f, x1]
  rw [show 128 + ((f - 128) * 256 + x1) / 256 = f by omega, show ((f - 128) * 256 + x1) % 256 = x1 by omega]

theorem again3 (f : Int) (x1 x2 : Int) (r : List Int) (hlo : 192 ≤ f) (hhi : f ≤ 223) (ht : toldOf f = 3) (p1 : 0 ≤ x1 ∧ x1 ≤ 255) (p2 : 0 ≤ x2 ∧ x2 ≤ 255) : GetSays (f :: x1 :: x2 :: r) := by
  have hl : ¬ (((x1 :: x2 :: r).length : Int) + 1) < 3 := by simp only [List.length_cons]; omega
  have hN : acc (f - leadOf 3) ((x1 :: x2 :: r).take ((3 : Int) - 1).toNat) = ((f - 192) * 256 + x1) * 256 + x2 := by rw [show leadOf 3 = 192 by decide +kernel]; rfl
  by_cases hs : sizeOf (((f - 192) * 256 + x1) * 256 + x2) < 3
  · exact .inr (.inl (getRet_bad f (x1 :: x2 :: r) 3 _ ht hl hN hs))
  have hk : sizeOf (((f - 192) * 256 + x1) * 256 + x2) = 3 := by
    rcases size_cases (((f - 192) * 256 + x1) * 256 + x2) (by omega) (by omega) with ⟨s, u, v⟩ | ⟨s, u, v⟩ | ⟨s, u, v⟩ | ⟨s, u, v⟩ | ⟨s, u, v⟩ | ⟨s, u, v⟩ | ⟨s, u, v⟩ | ⟨s, u, v⟩ | ⟨s, u, v⟩ <;> omega
  refine .inr (.inr ⟨((f - 192) * 256 + x1) * 256 + x2, 3, getRet_good f (x1 :: x2 :: r) 3 _ ht hl hN hs, by omega, by omega, by omega, by simp only [List.length_cons]; omega, ?_, by omega⟩)
  have e : octets (((f - 192) * 256 + x1) * 256 + x2) = octs (((f - 192) * 256 + x1) * 256 + x2) 3 := by unfold octets; rw [hk]; rfl
  rw [e]
  show [192 + (((f - 192) * 256 + x1) * 256 + x2) / 65536, (((f - 192) * 256 + x1) * 256 + x2) / 256 % 256, (((f - 192) * 256 + x1) * 256 + x2) % 256] = [f, x1, x2]
  rw [show 192 + (((f - 192) * 256 + x1) * 256 + x2) / 65536 = f by omega, show (((f - 192) * 256 + x1) * 256 + x2) / 256 % 256 = x1 by omega, show (((f - 192) * 256 + x1) * 256 + x2) % 256 = x2 by omega]

theorem again4 (f : Int) (x1 x2 x3 : Int) (r : List Int) (hlo : 224 ≤ f) (hhi : f ≤ 239) (ht : toldOf f = 4) (p1 : 0 ≤ x1 ∧ x1 ≤ 255) (p2 : 0 ≤ x2 ∧ x2 ≤ 255) (p3 : 0 ≤ x3 ∧ x3 ≤ 255) : GetSays (f :: x1 :: x2 :: x3 :: r) := by
  have hl : ¬ (((x1 :: x2 :: x3 :: r).length : Int) + 1) < 4 := by simp only [List.length_cons]; omega
  have hN : acc (f - leadOf 4) ((x1 :: x2 :: x3 :: r).take ((4 : Int) - 1).toNat) = (((f - 224) * 256 + x1) * 256 + x2) * 256 + x3 := by rw [show leadOf 4 = 224 by decide +kernel]; rfl
  by_cases hs : sizeOf ((((f - 224) * 256 + x1) * 256 + x2) * 256 + x3) < 4
  · exact .inr (.inl (getRet_bad f (x1 :: x2 :: x3 :: r) 4 _ ht hl hN hs))
  have hk : sizeOf ((((f - 224) * 256 + x1) * 256 + x2) * 256 + x3) = 4 := by
    rcases size_cases ((((f - 224) * 256 + x1) * 256 + x2) * 256 + x3) (by omega) (by omega) with ⟨s, u, v⟩ | ⟨s, u, v⟩ | ⟨s, u, v⟩ | ⟨s, u, v⟩ | ⟨s, u, v⟩ | ⟨s, u, v⟩ | ⟨s, u, v⟩ | ⟨s, u, v⟩ | ⟨s, u, v⟩ <;> omega
  refine .inr (.inr ⟨(((f - 224) * 256 + x1) * 256 + x2) * 256 + x3, 4, getRet_good f (x1 :: x2 :: x3 :: r) 4 _ ht hl hN hs, by omega, by omega, by omega, by simp only [List.length_cons]; omega, ?_, by omega⟩)
  have e : octets ((((f - 224) * 256 + x1) * 256 + x2) * 256 + x3) = octs ((((f - 224) * 256 + x1) * 256 + x2) * 256 + x3) 4 := by unfold octets; rw [hk]; rfl
  rw [e]
  show [224 + ((((f - 224) * 256 + x1) * 256 + x2) * 256 + x3) / 16777216, ((((f - 224) * 256 + x1) * 256 + x2) * 256 + x3) / 65536 % 256, ((((f - 224) * 256 + x1) * 256 + x2) * 256 + x3) / 256 % 256, ((((f - 224) * 256 + x1) * 256 + x2) * 256 + x3) % 256] = [f, x1, x2, x3]
  rw [show 224 + ((((f - 224) * 256 + x1) * 256 + x2) * 256 + x3) / 16777216 = f by omega, show ((((f - 224) * 256 + x1) * 256 + x2) * 256 + x3) / 65536 % 256 = x1 by omega, show ((((f - 224) * 256 + x1) * 256 + x2) * 256 + x3) / 256 % 256 = x2 by omega, show ((((f - 224) * 256 + x1) * 256 + x2) * 256 + x3) % 256 = x3 by omega]

theorem again5 (f : Int) (x1 x2 x3 x4 : Int) (r : List Int) (hlo : 240 ≤ f) (hhi : f ≤ 247) (ht : toldOf f = 5) (p1 : 0 ≤ x1 ∧ x1 ≤ 255) (p2 : 0 ≤ x2 ∧ x2 ≤ 255) (p3 : 0 ≤ x3 ∧ x3 ≤ 255) (p4 : 0 ≤ x4 ∧ x4 ≤ 255) : GetSays (f :: x1 :: x2 :: x3 :: x4 :: r) := by
  have hl : ¬ (((x1 :: x2 :: x3 :: x4 :: r).length : Int) + 1) < 5 := by simp only [List.length_cons]; omega
  have hN : acc (f - leadOf 5) ((x1 :: x2 :: x3 :: x4 :: r).take ((5 : Int) - 1).toNat) = ((((f - 240) * 256 + x1) * 256 + x2) * 256 + x3) * 256 + x4 := by rw [show leadOf 5 = 240 by decide +kernel]; rfl
  by_cases hs : sizeOf (((((f - 240) * 256 + x1) * 256 + x2) * 256 + x3) * 256 + x4) < 5
  · exact .inr (.inl (getRet_bad f (x1 :: x2 :: x3 :: x4 :: r) 5 _ ht hl hN hs))
  have hk : sizeOf (((((f - 240) * 256 + x1) * 256 + x2) * 256 + x3) * 256 + x4) = 5 := by
    rcases size_cases (((((f - 240) * 256 + x1) * 256 + x2) * 256 + x3) * 256 + x4) (by omega) (by omega) with ⟨s, u, v⟩ | ⟨s, u, v⟩ | ⟨s, u, v⟩ | ⟨s, u, v⟩ | ⟨s, u, v⟩ | ⟨s, u, v⟩ | ⟨s, u, v⟩ | ⟨s, u, v⟩ | ⟨s, u, v⟩ <;> omega
  refine .inr (.inr ⟨((((f - 240) * 256 + x1) * 256 + x2) * 256 + x3) * 256 + x4, 5, getRet_good f (x1 :: x2 :: x3 :: x4 :: r) 5 _ ht hl hN hs, by omega, by omega, by omega, by simp only [List.length_cons]; omega, ?_, by omega⟩)
  have e : octets (((((f - 240) * 256 + x1) * 256 + x2) * 256 + x3) * 256 + x4) = octs (((((f - 240) * 256 + x1) * 256 + x2) * 256 + x3) * 256 + x4) 5 := by unfold octets; rw [hk]; rfl
  rw [e]
  show [240 + (((((f - 240) * 256 + x1) * 256 + x2) * 256 + x3) * 256 + x4) / 4294967296, (((((f - 240) * 256 + x1) * 256 + x2) * 256 + x3) * 256 + x4) / 16777216 % 256, (((((f - 240) * 256 + x1) * 256 + x2) * 256 + x3) * 256 + x4) / 65536 % 256, (((((f - 240) * 256 + x1) * 256 + x2) * 256 + x3) * 256 + x4) / 256 % 256, (((((f - 240) * 256 + x1) * 256 + x2) * 256 + x3) * 256 + x4) % 256] = [f, x1, x2, x3, x4]
  rw [show 240 + (((((f - 240) * 256 + x1) * 256 + x2) * 256 + x3) * 256 + x4) / 4294967296 = f by omega, show (((((f - 240) * 256 + x1) * 256 + x2) * 256 + x3) * 256 + x4) / 16777216 % 256 = x1 by omega, show (((((f - 240) * 256 + x1) * 256 + x2) * 256 + x3) * 256 + x4) / 65536 % 256 = x2 by omega, show (((((f - 240) * 256 + x1) * 256 + x2) * 256 + x3) * 256 + x4) / 256 % 256 = x3 by omega, show (((((f - 240) * 256 + x1) * 256 + x2) * 256 + x3) * 256 + x4) % 256 = x4 by omega]

theorem again6 (f : Int) (x1 x2 x3 x4 x5 : Int) (r : List Int) (hlo : 248 ≤ f) (hhi : f ≤ 251) (ht : toldOf f = 6) (p1 : 0 ≤ x1 ∧ x1 ≤ 255) (p2 : 0 ≤ x2 ∧ x2 ≤ 255) (p3 : 0 ≤ x3 ∧ x3 ≤ 255) (p4 : 0 ≤ x4 ∧ x4 ≤ 255) (p5 : 0 ≤ x5 ∧ x5 ≤ 255) : GetSays (f :: x1 :: x2 :: x3 :: x4 :: x5 :: r) := by
  have hl : ¬ (((x1 :: x2 :: x3 :: x4 :: x5 :: r).length : Int) + 1) < 6 := by simp only [List.length_cons]; omega
  have hN : acc (f - leadOf 6) ((x1 :: x2 :: x3 :: x4 :: x5 :: r).take ((6 : Int) - 1).toNat) = (((((f - 248) * 256 + x1) * 256 + x2) * 256 + x3) * 256 + x4) * 256 + x5 := by rw [show leadOf 6 = 248 by decide +kernel]; rfl
  by_cases hs : sizeOf ((((((f - 248) * 256 + x1) * 256 + x2) * 256 + x3) * 256 + x4) * 256 + x5) < 6
  · exact .inr (.inl (getRet_bad f (x1 :: x2 :: x3 :: x4 :: x5 :: r) 6 _ ht hl hN hs))
  have hk : sizeOf ((((((f - 248) * 256 + x1) * 256 + x2) * 256 + x3) * 256 + x4) * 256 + x5) = 6 := by
    rcases size_cases ((((((f - 248) * 256 + x1) * 256 + x2) * 256 + x3) * 256 + x4) * 256 + x5) (by omega) (by omega) with ⟨s, u, v⟩ | ⟨s, u, v⟩ | ⟨s, u, v⟩ | ⟨s, u, v⟩ | ⟨s, u, v⟩ | ⟨s, u, v⟩ | ⟨s, u, v⟩ | ⟨s, u, v⟩ | ⟨s, u, v⟩ <;> omega
  refine .inr (.inr ⟨(((((f - 248) * 256 + x1) * 256 + x2) * 256 + x3) * 256 + x4) * 256 + x5, 6, getRet_good f (x1 :: x2 :: x3 :: x4 :: x5 :: r) 6 _ ht hl hN hs, by omega, by omega, by omega, by simp only [List.length_cons]; omega, ?_, by omega⟩)
  have e : octets ((((((f - 248) * 256 + x1) * 256 + x2) * 256 + x3) * 256 + x4) * 256 + x5) = octs ((((((f - 248) * 256 + x1) * 256 + x2) * 256 + x3) * 256 + x4) * 256 + x5) 6 := by unfold octets; rw [hk]; rfl
  rw [e]
  show [248 + ((((((f - 248) * 256 + x1) * 256 + x2) * 256 + x3) * 256 + x4) * 256 + x5) / 1099511627776, ((((((f - 248) * 256 + x1) * 256 + x2) * 256 + x3) * 256 + x4) * 256 + x5) / 4294967296 % 256, ((((((f - 248) * 256 + x1) * 256 + x2) * 256 + x3) * 256 + x4) * 256 + x5) / 16777216 % 256, ((((((f - 248) * 256 + x1) * 256 + x2) * 256 + x3) * 256 + x4) * 256 + x5) / 65536 % 256, ((((((f - 248) * 256 + x1) * 256 + x2) * 256 + x3) * 256 + x4) * 256 + x5) / 256 % 256, ((((((f - 248) * 256 + x1) * 256 + x2) * 256 + x3) * 256 + x4) * 256 + x5) % 256] = [f, x1, x2, x3, x4, x5]
  rw [show 248 + ((((((f - 248) * 256 + x1) * 256 + x2) * 256 + x3) * 256 + x4) * 256 + x5) / 1099511627776 = f by omega, show ((((((f - 248) * 256 + x1) * 256 + x2) * 256 + x3) * 256 + x4) * 256 + x5) / 4294967296 % 256 = x1 by omega, show ((((((f - 248) * 256 + x1) * 256 + x2) * 256 + x3) * 256 + x4) * 256 + x5) / 16777216 % 256 = x2 by omega, show ((((((f - 248) * 256 + x1) * 256 + x2) * 256 + x3) * 256 + x4) * 256 + x5) / 65536 % 256 = x3 by omega, show ((((((f - 248) * 256 + x1) * 256 + x2) * 256 + x3) * 256 + x4) * 256 + x5) / 256 % 256 = x4 by omega, show ((((((f - 248) * 256 + x1) * 256 + x2) * 256 + x3) * 256 + x4) * 256 + x5) % 256 = x5 by omega]

theorem again7 (f : Int) (x1 x2 x3 x4 x5 x6 : Int) (r : List Int) (hlo : 252 ≤ f) (hhi : f ≤ 253) (ht : toldOf f = 7) (p1 : 0 ≤ x1 ∧ x1 ≤ 255) (p2 : 0 ≤ x2 ∧ x2 ≤ 255) (p3 : 0 ≤ x3 ∧ x3 ≤ 255) (p4 : 0 ≤ x4 ∧ x4 ≤ 255) (p5 : 0 ≤ x5 ∧ x5 ≤ 255) (p6 : 0 ≤ x6 ∧ x6 ≤ 255) : GetSays (f :: x1 :: x2 :: x3 :: x4 :: x5 :: x6 :: r) := by
  have hl : ¬ (((x1 :: x2 :: x3 :: x4 :: x5 :: x6 :: r).length : Int) + 1) < 7 := by simp only [List.length_cons]; omega
  have hN : acc (f - leadOf 7) ((x1 :: x2 :: x3 :: x4 :: x5 :: x6 :: r).take ((7 : Int) - 1).toNat) = ((((((f - 252) * 256 + x1) * 256 + x2) * 256 + x3) * 256 + x4) * 256 + x5) * 256 + x6 := by rw [show leadOf 7 = 252 by decide +kernel]; rfl
  by_cases hs : sizeOf (((((((f - 252) * 256 + x1) * 256 + x2) * 256 + x3) * 256 + x4) * 256 + x5) * 256 + x6) < 7
  · exact .inr (.inl (getRet_bad f (x1 :: x2 :: x3 :: x4 :: x5 :: x6 :: r) 7 _ ht hl hN hs))
  have hk : sizeOf (((((((f - 252) * 256 + x1) * 256 + x2) * 256 + x3) * 256 + x4) * 256 + x5) * 256 + x6) = 7 := by
    rcases size_cases (((((((f - 252) * 256 + x1) * 256 + x2) * 256 + x3) * 256 + x4) * 256 + x5) * 256 + x6) (by omega) (by omega) with ⟨s, u, v⟩ | ⟨s, u, v⟩ | ⟨s, u, v⟩ | ⟨s, u, v⟩ | ⟨s, u, v⟩ | ⟨s, u, v⟩ | ⟨s, u, v⟩ | ⟨s, u, v⟩ | ⟨s, u, v⟩ <;> omega
  refine .inr (.inr ⟨((((((f - 252) * 256 + x1) * 256 + x2) * 256 + x3) * 256 + x4) * 256 + x5) * 256 + x6, 7, getRet_good f (x1 :: x2 :: x3 :: x4 :: x5 :: x6 :: r) 7 _ ht hl hN hs, by omega, by omega, by omega, by simp only [List.length_cons]; omega, ?_, by omega⟩)
  have e : octets (((((((f - 252) * 256 + x1) * 256 + x2) * 256 + x3) * 256 + x4) * 256 + x5) * 256 + x6) = octs (((((((f - 252) * 256 + x1) * 256 + x2) * 256 + x3) * 256 + x4) * 256 + x5) * 256 + x6) 7 := by unfold octets; rw [hk]; rfl
  rw [e]
  show [252 + (((((((f - 252) * 256 + x1) * 256 + x2) * 256 + x3) * 256 + x4) * 256 + x5) * 256 + x6) / 281474976710656, (((((((f - 252) * 256 + x1) * 256 + x2) * 256 + x3) * 256 + x4) * 256 + x5) * 256 + x6) / 1099511627776 % 256, (((((((f - 252) * 256 + x1) * 256 + x2) * 256 + x3) * 256 + x4) * 256 + x5) * 256 + x6) / 4294967296 % 256, (((((((f - 252) * 256 + x1) * 256 + x2) * 256 + x3) * 256 + x4) * 256 + x5) * 256 + x6) / 16777216 % 256, (((((((f - 252) * 256 + x1) * 256 + x2) * 256 + x3) * 256 + x4) * 256 + x5) * 256 + x6) / 65536 % 256, (((((((f - 252) * 256 + x1) * 256 + x2) * 256 + x3) * 256 + x4) * 256 + x5) * 256 + x6) / 256 % 256, (((((((f - 252) * 256 + x1) * 256 + x2) * 256 + x3) * 256 + x4) * 256 + x5) * 256 + x6) % 256] = [f, x1, x2, x3, x4, x5, x6]
  rw [show 252 + (((((((f - 252) * 256 + x1) * 256 + x2) * 256 + x3) * 256 + x4) * 256 + x5) * 256 + x6) / 281474976710656 = f by omega, show (((((((f - 252) * 256 + x1) * 256 + x2) * 256 + x3) * 256 + x4) * 256 + x5) * 256 + x6) / 1099511627776 % 256 = x1 by omega, show (((((((f - 252) * 256 + x1) * 256 + x2) * 256 + x3) * 256 + x4) * 256 + x5) * 256 + x6) / 4294967296 % 256 = x2 by omega, show (((((((f - 252) * 256 + x1) * 256 + x2) * 256 + x3) * 256 + x4) * 256 + x5) * 256 + x6) / 16777216 % 256 = x3 by omega, show (((((((f - 252) * 256 + x1) * 256 + x2) * 256 + x3) * 256 + x4) * 256 + x5) * 256 + x6) / 65536 % 256 = x4 by omega, show (((((((f - 252) * 256 + x1) * 256 + x2) * 256 + x3) * 256 + x4) * 256 + x5) * 256 + x6) / 256 % 256 = x5 by omega, show (((((((f - 252) * 256 + x1) * 256 + x2) * 256 + x3) * 256 + x4) * 256 + x5) * 256 + x6) % 256 = x6 by omega]

theorem again8 (f : Int) (x1 x2 x3 x4 x5 x6 x7 : Int) (r : List Int) (hlo : 254 ≤ f) (hhi : f ≤ 254) (ht : toldOf f = 8) (p1 : 0 ≤ x1 ∧ x1 ≤ 255) (p2 : 0 ≤ x2 ∧ x2 ≤ 255) (p3 : 0 ≤ x3 ∧ x3 ≤ 255) (p4 : 0 ≤ x4 ∧ x4 ≤ 255) (p5 : 0 ≤ x5 ∧ x5 ≤ 255) (p6 : 0 ≤ x6 ∧ x6 ≤ 255) (p7 : 0 ≤ x7 ∧ x7 ≤ 255) : GetSays (f :: x1 :: x2 :: x3 :: x4 :: x5 :: x6 :: x7 :: r) := by
  have hl : ¬ (((x1 :: x2 :: x3 :: x4 :: x5 :: x6 :: x7 :: r).length : Int) + 1) < 8 := by simp only [List.length_cons]; omega
  have hN : acc (f - leadOf 8) ((x1 :: x2 :: x3 :: x4 :: x5 :: x6 :: x7 :: r).take ((8 : Int) - 1).toNat) = (((((((f - 254) * 256 + x1) * 256 + x2) * 256 + x3) * 256 + x4) * 256 + x5) * 256 + x6) * 256 + x7 := by rw [show leadOf 8 = 254 by decide +kernel]; rfl
  by_cases hs : sizeOf ((((((((f - 254) * 256 + x1) * 256 + x2) * 256 + x3) * 256 + x4) * 256 + x5) * 256 + x6) * 256 + x7) < 8
  · exact .inr (.inl (getRet_bad f (x1 :: x2 :: x3 :: x4 :: x5 :: x6 :: x7 :: r) 8 _ ht hl hN hs))
  have hk : sizeOf ((((((((f - 254) * 256 + x1) * 256 + x2) * 256 + x3) * 256 + x4) * 256 + x5) * 256 + x6) * 256 + x7) = 8 := by
    rcases size_cases ((((((((f - 254) * 256 + x1) * 256 + x2) * 256 + x3) * 256 + x4) * 256 + x5) * 256 + x6) * 256 + x7) (by omega) (by omega) with ⟨s, u, v⟩ | ⟨s, u, v⟩ | ⟨s, u, v⟩ | ⟨s, u, v⟩ | ⟨s, u, v⟩ | ⟨s, u, v⟩ | ⟨s, u, v⟩ | ⟨s, u, v⟩ | ⟨s, u, v⟩ <;> omega
  refine .inr (.inr ⟨(((((((f - 254) * 256 + x1) * 256 + x2) * 256 + x3) * 256 + x4) * 256 + x5) * 256 + x6) * 256 + x7, 8, getRet_good f (x1 :: x2 :: x3 :: x4 :: x5 :: x6 :: x7 :: r) 8 _ ht hl hN hs, by omega, by omega, by omega, by simp only [List.length_cons]; omega, ?_, by omega⟩)
  have e : octets ((((((((f - 254) * 256 + x1) * 256 + x2) * 256 + x3) * 256 + x4) * 256 + x5) * 256 + x6) * 256 + x7) = octs ((((((((f - 254) * 256 + x1) * 256 + x2) * 256 + x3) * 256 + x4) * 256 + x5) * 256 + x6) * 256 + x7) 8 := by unfold octets; rw [hk]; rfl
  rw [e]
  show [254 + ((((((((f - 254) * 256 + x1) * 256 + x2) * 256 + x3) * 256 + x4) * 256 + x5) * 256 + x6) * 256 + x7) / 72057594037927936, ((((((((f - 254) * 256 + x1) * 256 + x2) * 256 + x3) * 256 + x4) * 256 + x5) * 256 + x6) * 256 + x7) / 281474976710656 % 256, ((((((((f - 254) * 256 + x1) * 256 + x2) * 256 + x3) * 256 + x4) * 256 + x5) * 256 + x6) * 256 + x7) / 1099511627776 % 256, ((((((((f - 254) * 256 + x1) * 256 + x2) * 256 + x3) * 256 + x4) * 256 + x5) * 256 + x6) * 256 + x7) / 4294967296 % 256, ((((((((f - 254) * 256 + x1) * 256 + x2) * 256 + x3) * 256 + x4) * 256 + x5) * 256 + x6) * 256 + x7) / 16777216 % 256, ((((((((f - 254) * 256 + x1) * 256 + x2) * 256 + x3) * 256 + x4) * 256 + x5) * 256 + x6) * 256 + x7) / 65536 % 256, ((((((((f - 254) * 256 + x1) * 256 + x2) * 256 + x3) * 256 + x4) * 256 + x5) * 256 + x6) * 256 + x7) / 256 % 256, ((((((((f - 254) * 256 + x1) * 256 + x2) * 256 + x3) * 256 + x4) * 256 + x5) * 256 + x6) * 256 + x7) % 256] = [f, x1, x2, x3, x4, x5, x6, x7]
  rw [show 254 + ((((((((f - 254) * 256 + x1) * 256 + x2) * 256 + x3) * 256 + x4) * 256 + x5) * 256 + x6) * 256 + x7) / 72057594037927936 = f by omega, show ((((((((f - 254) * 256 + x1) * 256 + x2) * 256 + x3) * 256 + x4) * 256 + x5) * 256 + x6) * 256 + x7) / 281474976710656 % 256 = x1 by omega, show ((((((((f - 254) * 256 + x1) * 256 + x2) * 256 + x3) * 256 + x4) * 256 + x5) * 256 + x6) * 256 + x7) / 1099511627776 % 256 = x2 by omega, show ((((((((f - 254) * 256 + x1) * 256 + x2) * 256 + x3) * 256 + x4) * 256 + x5) * 256 + x6) * 256 + x7) / 4294967296 % 256 = x3 by omega, show ((((((((f - 254) * 256 + x1) * 256 + x2) * 256 + x3) * 256 + x4) * 256 + x5) * 256 + x6) * 256 + x7) / 16777216 % 256 = x4 by omega, show ((((((((f - 254) * 256 + x1) * 256 + x2) * 256 + x3) * 256 + x4) * 256 + x5) * 256 + x6) * 256 + x7) / 65536 % 256 = x5 by omega, show ((((((((f - 254) * 256 + x1) * 256 + x2) * 256 + x3) * 256 + x4) * 256 + x5) * 256 + x6) * 256 + x7) / 256 % 256 = x6 by omega, show ((((((((f - 254) * 256 + x1) * 256 + x2) * 256 + x3) * 256 + x4) * 256 + x5) * 256 + x6) * 256 + x7) % 256 = x7 by omega]

theorem again9 (f : Int) (x1 x2 x3 x4 x5 x6 x7 x8 : Int) (r : List Int) (hlo : 255 ≤ f) (hhi : f ≤ 255) (ht : toldOf f = 9) (p1 : 0 ≤ x1 ∧ x1 ≤ 255) (p2 : 0 ≤ x2 ∧ x2 ≤ 255) (p3 : 0 ≤ x3 ∧ x3 ≤ 255) (p4 : 0 ≤ x4 ∧ x4 ≤ 255) (p5 : 0 ≤ x5 ∧ x5 ≤ 255) (p6 : 0 ≤ x6 ∧ x6 ≤ 255) (p7 : 0 ≤ x7 ∧ x7 ≤ 255) (p8 : 0 ≤ x8 ∧ x8 ≤ 255) : GetSays (f :: x1 :: x2 :: x3 :: x4 :: x5 :: x6 :: x7 :: x8 :: r) := by
  have hl : ¬ (((x1 :: x2 :: x3 :: x4 :: x5 :: x6 :: x7 :: x8 :: r).length : Int) + 1) < 9 := by simp only [List.length_cons]; omega
  have hN : acc (f - leadOf 9) ((x1 :: x2 :: x3 :: x4 :: x5 :: x6 :: x7 :: x8 :: r).take ((9 : Int) - 1).toNat) = ((((((((f - 255) * 256 + x1) * 256 + x2) * 256 + x3) * 256 + x4) * 256 + x5) * 256 + x6) * 256 + x7) * 256 + x8 := by rw [show leadOf 9 = 255 by decide +kernel]; rfl
  by_cases hs : sizeOf (((((((((f - 255) * 256 + x1) * 256 + x2) * 256 + x3) * 256 + x4) * 256 + x5) * 256 + x6) * 256 + x7) * 256 + x8) < 9
  · exact .inr (.inl (getRet_bad f (x1 :: x2 :: x3 :: x4 :: x5 :: x6 :: x7 :: x8 :: r) 9 _ ht hl hN hs))
  have hk : sizeOf (((((((((f - 255) * 256 + x1) * 256 + x2) * 256 + x3) * 256 + x4) * 256 + x5) * 256 + x6) * 256 + x7) * 256 + x8) = 9 := by
    rcases size_cases (((((((((f - 255) * 256 + x1) * 256 + x2) * 256 + x3) * 256 + x4) * 256 + x5) * 256 + x6) * 256 + x7) * 256 + x8) (by omega) (by omega) with ⟨s, u, v⟩ | ⟨s, u, v⟩ | ⟨s, u, v⟩ | ⟨s, u, v⟩ | ⟨s, u, v⟩ | ⟨s, u, v⟩ | ⟨s, u, v⟩ | ⟨s, u, v⟩ | ⟨s, u, v⟩ <;> omega
  refine .inr (.inr ⟨((((((((f - 255) * 256 + x1) * 256 + x2) * 256 + x3) * 256 + x4) * 256 + x5) * 256 + x6) * 256 + x7) * 256 + x8, 9, getRet_good f (x1 :: x2 :: x3 :: x4 :: x5 :: x6 :: x7 :: x8 :: r) 9 _ ht hl hN hs, by omega, by omega, by omega, by simp only [List.length_cons]; omega, ?_, by omega⟩)
  have e : octets (((((((((f - 255) * 256 + x1) * 256 + x2) * 256 + x3) * 256 + x4) * 256 + x5) * 256 + x6) * 256 + x7) * 256 + x8) = octs (((((((((f - 255) * 256 + x1) * 256 + x2) * 256 + x3) * 256 + x4) * 256 + x5) * 256 + x6) * 256 + x7) * 256 + x8) 9 := by unfold octets; rw [hk]; rfl
  rw [e]
  show [(255 : Int), (((((((((f - 255) * 256 + x1) * 256 + x2) * 256 + x3) * 256 + x4) * 256 + x5) * 256 + x6) * 256 + x7) * 256 + x8) / 72057594037927936 % 256, (((((((((f - 255) * 256 + x1) * 256 + x2) * 256 + x3) * 256 + x4) * 256 + x5) * 256 + x6) * 256 + x7) * 256 + x8) / 281474976710656 % 256, (((((((((f - 255) * 256 + x1) * 256 + x2) * 256 + x3) * 256 + x4) * 256 + x5) * 256 + x6) * 256 + x7) * 256 + x8) / 1099511627776 % 256, (((((((((f - 255) * 256 + x1) * 256 + x2) * 256 + x3) * 256 + x4) * 256 + x5) * 256 + x6) * 256 + x7) * 256 + x8) / 4294967296 % 256, (((((((((f - 255) * 256 + x1) * 256 + x2) * 256 + x3) * 256 + x4) * 256 + x5) * 256 + x6) * 256 + x7) * 256 + x8) / 16777216 % 256, (((((((((f - 255) * 256 + x1) * 256 + x2) * 256 + x3) * 256 + x4) * 256 + x5) * 256 + x6) * 256 + x7) * 256 + x8) / 65536 % 256, (((((((((f - 255) * 256 + x1) * 256 + x2) * 256 + x3) * 256 + x4) * 256 + x5) * 256 + x6) * 256 + x7) * 256 + x8) / 256 % 256, (((((((((f - 255) * 256 + x1) * 256 + x2) * 256 + x3) * 256 + x4) * 256 + x5) * 256 + x6) * 256 + x7) * 256 + x8) % 256] = [f, x1, x2, x3, x4, x5, x6, x7, x8]
  rw [show f = 255 by omega, show ((((((((((255 : Int) - 255) * 256 + x1) * 256 + x2) * 256 + x3) * 256 + x4) * 256 + x5) * 256 + x6) * 256 + x7) * 256 + x8) / 72057594037927936 % 256 = x1 by omega, show ((((((((((255 : Int) - 255) * 256 + x1) * 256 + x2) * 256 + x3) * 256 + x4) * 256 + x5) * 256 + x6) * 256 + x7) * 256 + x8) / 281474976710656 % 256 = x2 by omega, show ((((((((((255 : Int) - 255) * 256 + x1) * 256 + x2) * 256 + x3) * 256 + x4) * 256 + x5) * 256 + x6) * 256 + x7) * 256 + x8) / 1099511627776 % 256 = x3 by omega, show ((((((((((255 : Int) - 255) * 256 + x1) * 256 + x2) * 256 + x3) * 256 + x4) * 256 + x5) * 256 + x6) * 256 + x7) * 256 + x8) / 4294967296 % 256 = x4 by omega, show ((((((((((255 : Int) - 255) * 256 + x1) * 256 + x2) * 256 + x3) * 256 + x4) * 256 + x5) * 256 + x6) * 256 + x7) * 256 + x8) / 16777216 % 256 = x5 by omega, show ((((((((((255 : Int) - 255) * 256 + x1) * 256 + x2) * 256 + x3) * 256 + x4) * 256 + x5) * 256 + x6) * 256 + x7) * 256 + x8) / 65536 % 256 = x6 by omega, show ((((((((((255 : Int) - 255) * 256 + x1) * 256 + x2) * 256 + x3) * 256 + x4) * 256 + x5) * 256 + x6) * 256 + x7) * 256 + x8) / 256 % 256 = x7 by omega, show ((((((((((255 : Int) - 255) * 256 + x1) * 256 + x2) * 256 + x3) * 256 + x4) * 256 + x5) * 256 + x6) * 256 + x7) * 256 + x8) % 256 = x8 by omega]

theorem get_says (l : List Int) (hx : ∀ x ∈ l, 0 ≤ x ∧ x ≤ 255) : GetSays l := by
  cases l with
  | nil => exact .inl rfl
  | cons f r =>
    have hf := hx f (by simp)
    by_cases hsh : ((r.length : Int) + 1) < toldOf f
    · exact .inl (getRet_short f r hsh)
    rcases told_cases f hf.1 hf.2 with ⟨ht, hlo, hhi⟩ | ⟨ht, hlo, hhi⟩ | ⟨ht, hlo, hhi⟩ | ⟨ht, hlo, hhi⟩ | ⟨ht, hlo, hhi⟩ | ⟨ht, hlo, hhi⟩ | ⟨ht, hlo, hhi⟩ | ⟨ht, hlo, hhi⟩ | ⟨ht, hlo, hhi⟩
    · rw [ht] at hsh
      exact again1 f  r hlo hhi ht 
    · rw [ht] at hsh
      obtain ⟨x1, r1, rfl⟩ : ∃ x t, r = x :: t := cons_of (by omega)
      exact again2 f x1 r1 hlo hhi ht (hx x1 (by simp))
    · rw [ht] at hsh
      obtain ⟨x1, r1, rfl⟩ : ∃ x t, r = x :: t := cons_of (by omega)
      obtain ⟨x2, r2, rfl⟩ : ∃ x t, r1 = x :: t := cons_of (by simp only [List.length_cons] at hsh; omega)
      exact again3 f x1 x2 r2 hlo hhi ht (hx x1 (by simp)) (hx x2 (by simp))
    · rw [ht] at hsh
      obtain ⟨x1, r1, rfl⟩ : ∃ x t, r = x :: t := cons_of (by omega)
      obtain ⟨x2, r2, rfl⟩ : ∃ x t, r1 = x :: t := cons_of (by simp only [List.length_cons] at hsh; omega)
      obtain ⟨x3, r3, rfl⟩ : ∃ x t, r2 = x :: t := cons_of (by simp only [List.length_cons] at hsh; omega)
      exact again4 f x1 x2 x3 r3 hlo hhi ht (hx x1 (by simp)) (hx x2 (by simp)) (hx x3 (by simp))
    · rw [ht] at hsh
      obtain ⟨x1, r1, rfl⟩ : ∃ x t, r = x :: t := cons_of (by omega)
      obtain ⟨x2, r2, rfl⟩ : ∃ x t, r1 = x :: t := cons_of (by simp only [List.length_cons] at hsh; omega)
      obtain ⟨x3, r3, rfl⟩ : ∃ x t, r2 = x :: t := cons_of (by simp only [List.length_cons] at hsh; omega)
      obtain ⟨x4, r4, rfl⟩ : ∃ x t, r3 = x :: t := cons_of (by simp only [List.length_cons] at hsh; omega)
      exact again5 f x1 x2 x3 x4 r4 hlo hhi ht (hx x1 (by simp)) (hx x2 (by simp)) (hx x3 (by simp)) (hx x4 (by simp))
    · rw [ht] at hsh
      obtain ⟨x1, r1, rfl⟩ : ∃ x t, r = x :: t := cons_of (by omega)
      obtain ⟨x2, r2, rfl⟩ : ∃ x t, r1 = x :: t := cons_of (by simp only [List.length_cons] at hsh; omega)
      obtain ⟨x3, r3, rfl⟩ : ∃ x t, r2 = x :: t := cons_of (by simp only [List.length_cons] at hsh; omega)
      obtain ⟨x4, r4, rfl⟩ : ∃ x t, r3 = x :: t := cons_of (by simp only [List.length_cons] at hsh; omega)
      obtain ⟨x5, r5, rfl⟩ : ∃ x t, r4 = x :: t := cons_of (by simp only [List.length_cons] at hsh; omega)
      exact again6 f x1 x2 x3 x4 x5 r5 hlo hhi ht (hx x1 (by simp)) (hx x2 (by simp)) (hx x3 (by simp)) (hx x4 (by simp)) (hx x5 (by simp))
    · rw [ht] at hsh
      obtain ⟨x1, r1, rfl⟩ : ∃ x t, r = x :: t := cons_of (by omega)
      obtain ⟨x2, r2, rfl⟩ : ∃ x t, r1 = x :: t := cons_of (by simp only [List.length_cons] at hsh; omega)
      obtain ⟨x3, r3, rfl⟩ : ∃ x t, r2 = x :: t := cons_of (by simp only [List.length_cons] at hsh; omega)
      obtain ⟨x4, r4, rfl⟩ : ∃ x t, r3 = x :: t := cons_of (by simp only [List.length_cons] at hsh; omega)
      obtain ⟨x5, r5, rfl⟩ : ∃ x t, r4 = x :: t := cons_of (by simp only [List.length_cons] at hsh; omega)
      obtain ⟨x6, r6, rfl⟩ : ∃ x t, r5 = x :: t := cons_of (by simp only [List.length_cons] at hsh; omega)
      exact again7 f x1 x2 x3 x4 x5 x6 r6 hlo hhi ht (hx x1 (by simp)) (hx x2 (by simp)) (hx x3 (by simp)) (hx x4 (by simp)) (hx x5 (by simp)) (hx x6 (by simp))
    · rw [ht] at hsh
      obtain ⟨x1, r1, rfl⟩ : ∃ x t, r = x :: t := cons_of (by omega)
      obtain ⟨x2, r2, rfl⟩ : ∃ x t, r1 = x :: t := cons_of (by simp only [List.length_cons] at hsh; omega)
      obtain ⟨x3, r3, rfl⟩ : ∃ x t, r2 = x :: t := cons_of (by simp only [List.length_cons] at hsh; omega)
      obtain ⟨x4, r4, rfl⟩ : ∃ x t, r3 = x :: t := cons_of (by simp only [List.length_cons] at hsh; omega)
      obtain ⟨x5, r5, rfl⟩ : ∃ x t, r4 = x :: t := cons_of (by simp only [List.length_cons] at hsh; omega)
      obtain ⟨x6, r6, rfl⟩ : ∃ x t, r5 = x :: t := cons_of (by simp only [List.length_cons] at hsh; omega)
      obtain ⟨x7, r7, rfl⟩ : ∃ x t, r6 = x :: t := cons_of (by simp only [List.length_cons] at hsh; omega)
      exact again8 f x1 x2 x3 x4 x5 x6 x7 r7 hlo hhi ht (hx x1 (by simp)) (hx x2 (by simp)) (hx x3 (by simp)) (hx x4 (by simp)) (hx x5 (by simp)) (hx x6 (by simp)) (hx x7 (by simp))
    · rw [ht] at hsh
      obtain ⟨x1, r1, rfl⟩ : ∃ x t, r = x :: t := cons_of (by omega)
      obtain ⟨x2, r2, rfl⟩ : ∃ x t, r1 = x :: t := cons_of (by simp only [List.length_cons] at hsh; omega)
      obtain ⟨x3, r3, rfl⟩ : ∃ x t, r2 = x :: t := cons_of (by simp only [List.length_cons] at hsh; omega)
      obtain ⟨x4, r4, rfl⟩ : ∃ x t, r3 = x :: t := cons_of (by simp only [List.length_cons] at hsh; omega)
      obtain ⟨x5, r5, rfl⟩ : ∃ x t, r4 = x :: t := cons_of (by simp only [List.length_cons] at hsh; omega)
      obtain ⟨x6, r6, rfl⟩ : ∃ x t, r5 = x :: t := cons_of (by simp only [List.length_cons] at hsh; omega)
      obtain ⟨x7, r7, rfl⟩ : ∃ x t, r6 = x :: t := cons_of (by simp only [List.length_cons] at hsh; omega)
      obtain ⟨x8, r8, rfl⟩ : ∃ x t, r7 = x :: t := cons_of (by simp only [List.length_cons] at hsh; omega)
      exact again9 f x1 x2 x3 x4 x5 x6 x7 x8 r8 hlo hhi ht (hx x1 (by simp)) (hx x2 (by simp)) (hx x3 (by simp)) (hx x4 (by simp)) (hx x5 (by simp)) (hx x6 (by simp)) (hx x7 (by simp)) (hx x8 (by simp))
end Go.Proofs.Ytekoniaobmapdaa

/- A checksum's register of 32 bits as plain bit vectors: it goes on, it is linear, what is guarded sums up to 0, and up to 32 bits in a row that are turned are told. -/
namespace Go.Proofs.Ytekoniaobmapdaa.SumPlain

def poly : BitVec 32 := 0x04c11db7#32

/-- One bit: shifted left, the polynomial where a 1 fell out. -/
def stp (c : BitVec 32) : BitVec 32 := (c <<< 1) ^^^ (if c.msb then poly else 0#32)

theorem xor_four {n : Nat} (a b c d : BitVec n) : (a ^^^ b) ^^^ (c ^^^ d) = (a ^^^ c) ^^^ (b ^^^ d) := by
  rw [BitVec.xor_assoc, ← BitVec.xor_assoc b c d, BitVec.xor_comm b c, BitVec.xor_assoc c b d, ← BitVec.xor_assoc]

theorem stp_xor (c d : BitVec 32) : stp (c ^^^ d) = stp c ^^^ stp d := by
  unfold stp
  rw [BitVec.msb_xor, BitVec.shiftLeft_xor_distrib, xor_four]
  congr 1
  cases c.msb <;> cases d.msb <;> simp

theorem stp_zero : stp 0#32 = 0#32 := by decide

theorem stp_inj (c : BitVec 32) (h : stp c = 0#32) : c = 0#32 := by
  have h0 : (stp c).getLsbD 0 = false := by rw [h]; simp
  have hm : c.msb = false := by
    unfold stp at h0
    rw [BitVec.getLsbD_xor] at h0
    cases hc : c.msb
    · rfl
    · rw [hc] at h0
      have p0 : poly[0] = true := by decide
      simp [p0] at h0
  unfold stp at h
  rw [hm] at h
  simp at h
  apply BitVec.eq_of_getLsbD_eq
  intro i hi
  rw [BitVec.getLsbD_zero]
  by_cases c31 : i = 31
  · subst c31
    rw [BitVec.msb_eq_getLsbD_last] at hm
    exact hm
  · have := congrArg (fun v => v.getLsbD (i + 1)) h
    simp [BitVec.getLsbD_shiftLeft] at this
    exact this (by omega)

/-- So many bits. -/
def stpN : Nat → BitVec 32 → BitVec 32
  | 0, c => c
  | n + 1, c => stpN n (stp c)

theorem stpN_xor : ∀ (n : Nat) (c d : BitVec 32), stpN n (c ^^^ d) = stpN n c ^^^ stpN n d
  | 0, _, _ => rfl
  | n + 1, c, d => by
    show stpN n (stp (c ^^^ d)) = stpN n (stp c) ^^^ stpN n (stp d)
    rw [stp_xor, stpN_xor n]
theorem stpN_zero : ∀ n, stpN n 0#32 = 0#32
  | 0 => rfl
  | n + 1 => by
    show stpN n (stp 0#32) = _
    rw [stp_zero, stpN_zero n]
theorem stpN_inj : ∀ (n : Nat) (c : BitVec 32), stpN n c = 0#32 → c = 0#32
  | 0, _, h => h
  | n + 1, c, h => stp_inj c (stpN_inj n (stp c) h)
theorem stpN_add : ∀ (n m : Nat) (c : BitVec 32), stpN (n + m) c = stpN m (stpN n c)
  | 0, m, c => by rw [Nat.zero_add]; rfl
  | n + 1, m, c => by
    rw [Nat.add_right_comm]
    exact stpN_add n m (stp c)

/-- An octet at the register's top. -/
def top (x : BitVec 8) : BitVec 32 := (x.setWidth 32) <<< 24

theorem top_xor (x y : BitVec 8) : top (x ^^^ y) = top x ^^^ top y := by
  unfold top
  rw [BitVec.setWidth_xor, BitVec.shiftLeft_xor_distrib]

/-- One octet. -/
def octS (c : BitVec 32) (x : BitVec 8) : BitVec 32 := stpN 8 (c ^^^ top x)

def extS (c : BitVec 32) (l : List (BitVec 8)) : BitVec 32 := l.foldl octS c

theorem ext_append (c : BitVec 32) (a b : List (BitVec 8)) : extS c (a ++ b) = extS (extS c a) b := by simp [extS]

theorem oct_xor (c d : BitVec 32) (x y : BitVec 8) : octS (c ^^^ d) (x ^^^ y) = octS c x ^^^ octS d y := by
  unfold octS
  rw [top_xor, xor_four, stpN_xor]

theorem ext_xor : ∀ (a b : List (BitVec 8)) (c d : BitVec 32), a.length = b.length → extS (c ^^^ d) (List.zipWith (· ^^^ ·) a b) = extS c a ^^^ extS d b
  | [], [], c, d, _ => rfl
  | [], _ :: _, _, _, h => by simp at h
  | _ :: _, [], _, _, h => by simp at h
  | x :: a, y :: b, c, d, h => by
    show extS (octS (c ^^^ d) (x ^^^ y)) (List.zipWith (· ^^^ ·) a b) = extS (octS c x) a ^^^ extS (octS d y) b
    rw [oct_xor, ext_xor a b _ _ (by simpa using h)]

/-- Nothing falls out: a plain shift. -/
theorem stpN_low : ∀ (n : Nat) (r : BitVec 32), n ≤ 32 → r.toNat < 2 ^ (32 - n) → stpN n r = r <<< n
  | 0, r, _, _ => by simp [stpN]
  | n + 1, r, hn, h => by
    have hlt : r.toNat < 2 ^ 31 := Nat.lt_of_lt_of_le h (Nat.pow_le_pow_right (by omega) (by omega))
    have hm : r.msb = false := by
      rw [BitVec.msb_eq_decide]
      simp
      omega
    have e : stp r = r <<< 1 := by unfold stp; rw [hm]; simp
    have hp : 2 ^ (32 - n) = 2 * 2 ^ (32 - (n + 1)) := by
      have : 32 - n = 32 - (n + 1) + 1 := by omega
      rw [this, Nat.pow_succ]
      omega
    have ht : (r <<< 1).toNat = 2 * r.toNat := by
      rw [BitVec.toNat_shiftLeft, Nat.shiftLeft_eq]
      have : r.toNat * 2 ^ 1 < 2 ^ 32 := by omega
      rw [Nat.mod_eq_of_lt this]
      omega
    show stpN n (stp r) = _
    rw [e, stpN_low n (r <<< 1) (by omega) (by rw [ht, hp]; omega), ← BitVec.shiftLeft_add, Nat.add_comm]

/-- A word's octets, the highest first. -/
def hi8 (w : BitVec 32) : BitVec 8 := w.extractLsb' 24 8

theorem split_top (w : BitVec 32) : w = top (hi8 w) ^^^ (w &&& 0xffffff#32) := by
  apply BitVec.eq_of_getLsbD_eq
  intro i hi
  have hmask : ∀ i, i < 32 → (0xffffff#32).getLsbD i = decide (i < 24) := by decide
  simp only [top, hi8, BitVec.getLsbD_xor, BitVec.getLsbD_and, BitVec.getLsbD_shiftLeft, BitVec.getLsbD_setWidth, BitVec.getLsbD_extractLsb', hmask i hi]
  by_cases c : i < 24
  · simp [c]
  · have e : 24 + (i - 24) = i := by omega
    have e2 : i - 24 < 8 := by omega
    have e3 : i - 24 < 32 := by omega
    simp [c, e, e2, e3, hi]

theorem low_small (w : BitVec 32) : (w &&& 0xffffff#32).toNat < 2 ^ (32 - 8) := by
  rw [BitVec.toNat_and]
  exact Nat.lt_of_le_of_lt Nat.and_le_right (by decide)

theorem low_shift (w : BitVec 32) : (w &&& 0xffffff#32) <<< 8 = w <<< 8 := by
  apply BitVec.eq_of_getLsbD_eq
  intro i hi
  have hmask : ∀ i, i < 32 → (0xffffff#32).getLsbD i = decide (i < 24) := by decide
  simp only [BitVec.getLsbD_shiftLeft, BitVec.getLsbD_and]
  by_cases c : i < 8
  · simp [c]
  · rw [hmask (i - 8) (by omega)]
    have : i - 8 < 24 := by omega
    simp [this]

/-- Eight bits of a word in the register. -/
theorem feed8 (c w : BitVec 32) : stpN 8 (c ^^^ w) = octS c (hi8 w) ^^^ (w <<< 8) := by
  have e : c ^^^ w = (c ^^^ top (hi8 w)) ^^^ (w &&& 0xffffff#32) := by
    rw [BitVec.xor_assoc, ← split_top]
  rw [e, stpN_xor, stpN_low 8 _ (by omega) (low_small w), low_shift]
  rfl

/-- Four octets of a word, one behind the other, are the word in the register, 32 bits on. -/
theorem feed32 (c w : BitVec 32) : extS c [hi8 w, hi8 (w <<< 8), hi8 (w <<< 16), hi8 (w <<< 24)] = stpN 32 (c ^^^ w) := by
  have e32 : stpN 32 (c ^^^ w) = stpN 8 (stpN 8 (stpN 8 (stpN 8 (c ^^^ w)))) := by
    show stpN (8 + (8 + (8 + 8))) _ = _
    rw [stpN_add, stpN_add, stpN_add]
  rw [e32, feed8, feed8, feed8, feed8]
  have s2 : w <<< 8 <<< 8 = w <<< 16 := by rw [← BitVec.shiftLeft_add]
  have s3 : w <<< 16 <<< 8 = w <<< 24 := by rw [← BitVec.shiftLeft_add]
  have s4 : w <<< 24 <<< 8 = 0#32 := by rw [← BitVec.shiftLeft_add]; simp
  rw [s2, s3, s4, BitVec.xor_zero]
  rfl

/-- What is guarded sums up to 0: just the register's own octets bring it to 0. -/
theorem ext_own (c w : BitVec 32) : extS c [hi8 w, hi8 (w <<< 8), hi8 (w <<< 16), hi8 (w <<< 24)] = 0#32 ↔ c = w := by
  rw [feed32]
  constructor
  · intro h
    have := stpN_inj 32 _ h
    have e : c = (c ^^^ w) ^^^ w := by rw [BitVec.xor_assoc, BitVec.xor_self, BitVec.xor_zero]
    rw [e, this, BitVec.zero_xor]
  · intro h
    subst h
    rw [BitVec.xor_self, stpN_zero]

/-- One bit into the register. -/
def bitS (c : BitVec 32) (b : Bool) : BitVec 32 := stp (c ^^^ (if b then 0x80000000#32 else 0#32))

/-- The first n bits of a word, the highest first. -/
def bitsOf (w : BitVec 32) : Nat → List Bool
  | 0 => []
  | n + 1 => w.msb :: bitsOf (w <<< 1) n

theorem split_msb (w : BitVec 32) : w = (if w.msb then 0x80000000#32 else 0#32) ^^^ (w &&& 0x7fffffff#32) := by
  apply BitVec.eq_of_getLsbD_eq
  intro i hi
  have h1 : ∀ i, i < 32 → (0x7fffffff#32).getLsbD i = decide (i < 31) := by decide
  have h2 : ∀ i, i < 32 → (0x80000000#32).getLsbD i = decide (i = 31) := by decide
  rw [BitVec.getLsbD_xor, BitVec.getLsbD_and, h1 i hi]
  by_cases c : i = 31
  · subst c
    rw [← BitVec.msb_eq_getLsbD_last w]
    cases hm : w.msb
    · simp
    · have := h2 31 (by decide)
      simp
  · have c2 : i < 31 := by omega
    cases hm : w.msb
    · simp [c2]
    · have := h2 i hi
      simp [c2, c, this]

theorem feed1 (c w : BitVec 32) : stp (c ^^^ w) = bitS c w.msb ^^^ (w <<< 1) := by
  have hs : (w &&& 0x7fffffff#32).toNat < 2 ^ (32 - 1) := by
    rw [BitVec.toNat_and]
    exact Nat.lt_of_le_of_lt Nat.and_le_right (by decide)
  have hl : stp (w &&& 0x7fffffff#32) = w <<< 1 := by
    have e := stpN_low 1 (w &&& 0x7fffffff#32) (by omega) hs
    have e2 : (w &&& 0x7fffffff#32) <<< 1 = w <<< 1 := by
      apply BitVec.eq_of_getLsbD_eq
      intro i hi
      have h1 : ∀ i, i < 32 → (0x7fffffff#32).getLsbD i = decide (i < 31) := by decide
      rw [BitVec.getLsbD_shiftLeft, BitVec.getLsbD_shiftLeft, BitVec.getLsbD_and]
      by_cases c : i < 1
      · simp [c]
      · rw [h1 (i - 1) (by omega)]
        have : i - 1 < 31 := by omega
        simp [this]
    rw [← e2, ← e]
    rfl
  have e : c ^^^ w = (c ^^^ (if w.msb then 0x80000000#32 else 0#32)) ^^^ (w &&& 0x7fffffff#32) := by
    rw [BitVec.xor_assoc, ← split_msb]
  rw [e, stp_xor, hl]
  rfl

theorem feedN : ∀ (n : Nat) (c w : BitVec 32), stpN n (c ^^^ w) = (bitsOf w n).foldl bitS c ^^^ (w <<< n)
  | 0, c, w => by simp [stpN, bitsOf]
  | n + 1, c, w => by
    show stpN n (stp (c ^^^ w)) = (bitsOf (w <<< 1) n).foldl bitS (bitS c w.msb) ^^^ (w <<< (n + 1))
    rw [feed1, feedN n, ← BitVec.shiftLeft_add, Nat.add_comm 1 n]

theorem top_gone (x : BitVec 8) : top x <<< 8 = 0#32 := by
  unfold top
  rw [← BitVec.shiftLeft_add]
  simp

/-- An octet, bit by bit. -/
theorem oct_bits (c : BitVec 32) (x : BitVec 8) : octS c x = (bitsOf (top x) 8).foldl bitS c := by
  unfold octS
  rw [feedN, top_gone, BitVec.xor_zero]

def bitsL (l : List (BitVec 8)) : List Bool := l.flatMap fun x => bitsOf (top x) 8

theorem ext_bits (l : List (BitVec 8)) : ∀ c, extS c l = (bitsL l).foldl bitS c := by
  induction l with
  | nil => intro c; rfl
  | cons x l ih =>
    intro c
    show extS (octS c x) l = _
    rw [ih, oct_bits]
    simp [bitsL]

theorem bits_still : ∀ (n : Nat) (c : BitVec 32), (List.replicate n false).foldl bitS c = stpN n c
  | 0, c => rfl
  | n + 1, c => by
    show (List.replicate n false).foldl bitS (bitS c false) = stpN n (stp c)
    rw [bits_still n]
    simp [bitS]

/-- 32 bits in a row, not all of them 0, wherever they lie, are never told as 0. -/
theorem burst (n m : Nat) (t : BitVec 32) (ht : t ≠ 0#32) : (List.replicate n false ++ bitsOf t 32 ++ List.replicate m false).foldl bitS 0#32 ≠ 0#32 := by
  rw [List.foldl_append, List.foldl_append, bits_still m, bits_still n, stpN_zero]
  intro h
  have h2 := stpN_inj m _ h
  have e := feedN 32 0#32 t
  have s : t <<< 32 = 0#32 := by simp
  rw [s, BitVec.xor_zero, h2, BitVec.zero_xor] at e
  exact ht (stpN_inj 32 t e)
end Go.Proofs.Ytekoniaobmapdaa.SumPlain
