
import Derived.Test.YtnchjlimkgbfpaaGreatDoorVPut
import Derived.Deep.QuietTactic
import Derived.BigQuiet
namespace Go.Proofs.YtnchjlimkgbfpaaGreatDoor
open Go.RowKit
set_option linter.unusedVariables false
set_option maxRecDepth 20000
def acc (a : Int) (xs : List Int) : Int := xs.foldl (fun a x => a * 256 + x) a
def getOf : List Int → Int × Int × Int
  | [] => (0, 0, 8)
  | f :: r => if ((r.length : Int) + 1) < toldOf f then (0, 0, 8) else
      if sizeOf (acc (f - leadOf (toldOf f)) (r.take (toldOf f - 1).toNat)) < toldOf f then (0, 0, 4) else
        (acc (f - leadOf (toldOf f)) (r.take (toldOf f - 1).toNat), toldOf f, 0)
def GetEnd (N k : Int) (e : Ending) : Prop :=
  (sizeOf N < k ∧ e = .returned (.tuple #[.int .u64 0, .int .i64 0, .int .i64 4])) ∨
  (¬ sizeOf N < k ∧ e = .returned (.tuple #[.int .u64 N, .int .i64 k, .int .i64 0]))
theorem GetEnd.bad {N k : Int} (h : sizeOf N < k) : GetEnd N k (.returned (.tuple #[.int .u64 0, .int .i64 0, .int .i64 4])) := .inl ⟨h, rfl⟩
theorem told_table : ∀ f : Fin 256, toldOf (f.val : Int) = if f.val ≤ 127 then 1 else if f.val ≤ 191 then 2 else if f.val ≤ 223 then 3 else if f.val ≤ 239 then 4 else if f.val ≤ 247 then 5 else if f.val ≤ 251 then 6 else if f.val ≤ 253 then 7 else if f.val ≤ 254 then 8 else 9 := by decide +kernel
theorem told_cases (f : Int) (h0 : 0 ≤ f) (h1 : f ≤ 255) :
    (toldOf f = 1 ∧ 0 ≤ f ∧ f ≤ 127) ∨ (toldOf f = 2 ∧ 128 ≤ f ∧ f ≤ 191) ∨ (toldOf f = 3 ∧ 192 ≤ f ∧ f ≤ 223) ∨ (toldOf f = 4 ∧ 224 ≤ f ∧ f ≤ 239) ∨ (toldOf f = 5 ∧ 240 ≤ f ∧ f ≤ 247) ∨ (toldOf f = 6 ∧ 248 ≤ f ∧ f ≤ 251) ∨ (toldOf f = 7 ∧ 252 ≤ f ∧ f ≤ 253) ∨ (toldOf f = 8 ∧ 254 ≤ f ∧ f ≤ 254) ∨ (toldOf f = 9 ∧ 255 ≤ f ∧ f ≤ 255) := by
  have h := told_table ⟨f.toNat, by omega⟩
  have e : ((f.toNat : Nat) : Int) = f := by omega
  have h' : toldOf ((f.toNat : Nat) : Int) = if f.toNat ≤ 127 then 1 else if f.toNat ≤ 191 then 2 else if f.toNat ≤ 223 then 3 else if f.toNat ≤ 239 then 4 else if f.toNat ≤ 247 then 5 else if f.toNat ≤ 251 then 6 else if f.toNat ≤ 253 then 7 else if f.toNat ≤ 254 then 8 else 9 := h
  rw [e] at h'
  by_cases c1 : f.toNat ≤ 127
  · rw [if_pos c1] at h'; exact .inl ⟨h', by omega, by omega⟩
  rw [if_neg c1] at h'
  by_cases c2 : f.toNat ≤ 191
  · rw [if_pos c2] at h'; exact .inr (.inl ⟨h', by omega, by omega⟩)
  rw [if_neg c2] at h'
  by_cases c3 : f.toNat ≤ 223
  · rw [if_pos c3] at h'; exact .inr (.inr (.inl ⟨h', by omega, by omega⟩))
  rw [if_neg c3] at h'
  by_cases c4 : f.toNat ≤ 239
  · rw [if_pos c4] at h'; exact .inr (.inr (.inr (.inl ⟨h', by omega, by omega⟩)))
  rw [if_neg c4] at h'
  by_cases c5 : f.toNat ≤ 247
  · rw [if_pos c5] at h'; exact .inr (.inr (.inr (.inr (.inl ⟨h', by omega, by omega⟩))))
  rw [if_neg c5] at h'
  by_cases c6 : f.toNat ≤ 251
  · rw [if_pos c6] at h'; exact .inr (.inr (.inr (.inr (.inr (.inl ⟨h', by omega, by omega⟩)))))
  rw [if_neg c6] at h'
  by_cases c7 : f.toNat ≤ 253
  · rw [if_pos c7] at h'; exact .inr (.inr (.inr (.inr (.inr (.inr (.inl ⟨h', by omega, by omega⟩))))))
  rw [if_neg c7] at h'
  by_cases c8 : f.toNat ≤ 254
  · rw [if_pos c8] at h'; exact .inr (.inr (.inr (.inr (.inr (.inr (.inr (.inl ⟨h', by omega, by omega⟩)))))))
  rw [if_neg c8] at h'
  exact .inr (.inr (.inr (.inr (.inr (.inr (.inr (.inr (⟨h', by omega, by omega⟩))))))))
end Go.Proofs.YtnchjlimkgbfpaaGreatDoor
