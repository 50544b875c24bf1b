/- The page's example, plainly. -/
import Derived.Test.YtbnghhmmanleaaaDoorNSpec
import Derived.Test.YtbnghhmmanleaaaDoorNParse
namespace Go.Proofs.YtbnghhmmanleaaaDoor
set_option linter.unusedVariables false

/-- "0 12 29 2 *". -/
def pageT : List Int := [48, 32, 49, 50, 32, 50, 57, 32, 50, 32, 42]
def pageR : Ru := ⟨1, 4096, 536870912, 4, 127, false, true⟩
set_option maxRecDepth 100000 in
theorem page_parse : parseR pageT = (pageR, 0) := by
  have h : wordsL pageT = [[48], [49, 50], [50, 57], [50], [42]] := by decide +kernel
  have e : parseR pageT = ruleOf [48] [49, 50] [50, 57] [50] [42] := parseR_five (by decide) h
  rw [e]
  have f0 : fieldN [48] 0 59 = 1 := by decide +kernel
  have f1 : fieldN [49, 50] 0 23 = 4096 := by decide +kernel
  have f2 : fieldN [50, 57] 1 31 = 536870912 := by decide +kernel
  have f3 : fieldN [50] 1 12 = 4 := by decide +kernel
  unfold ruleOf
  rw [f0, f1, f2, f3]
  rfl
theorem page_days : (List.range 789).all (fun i => !dayAt pageR (20454 + (i : Int))) = true := by decide +kernel
theorem page_check : checkP pageR = 0 := by decide +kernel
theorem page_next : NextQ pageR 1767225600 1835438400 true := by
  left
  refine ⟨rfl, by omega, by omega, by omega, by decide +kernel, ?_⟩
  intro b h1 h2
  by_cases c : b / 86400 < 21243
  · have hd := List.all_eq_true.1 page_days (b / 86400 - 20454).toNat (List.mem_range.2 (by omega))
    have e : (20454 : Int) + (((b / 86400 - 20454).toNat : Nat) : Int) = b / 86400 := by omega
    rw [e] at hd
    exact comes_day (by simpa using hd)
  · have hh : ∀ h, h < 12 → (4096 : Nat).testBit h = false := by decide
    rw [comes_split]
    have e : (pageR.ho).testBit (hourT b).toNat = false := hh _ (by unfold hourT; omega)
    rw [e]
    simp
theorem page_nextR : NextR pageR 1767225600 1835438400 true 0 := .inr (.inr ⟨page_check, by omega, by omega, rfl, page_next⟩)
end Go.Proofs.YtbnghhmmanleaaaDoor
