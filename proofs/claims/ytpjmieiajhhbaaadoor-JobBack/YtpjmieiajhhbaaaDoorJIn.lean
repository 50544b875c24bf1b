/- What a job that may be has. -/
import Derived.Test.YtpjmieiajhhbaaaDoorJChk
namespace Go.Proofs.YtpjmieiajhhbaaaDoor
open Go.RowKit
set_option linter.unusedVariables false
set_option linter.unusedSimpArgs false

def numsJ (j : Jb) : List Int := [j.id, j.st, j.du, j.tr, j.wk, j.tk, j.un]
def textsJ (j : Jb) : List (List Int) := [j.na, j.ru, j.pa]
theorem chkJ_parts {j : Jb} (h : chkJ j = 0) : chkA j = true ∧ chkR j = true ∧ chkL j = true := by
  unfold chkJ at h
  have h : (chkA j && (chkR j && chkL j)) = true := Classical.byContradiction fun q => by rw [if_neg q] at h; cases h
  simpa only [Bool.and_eq_true] using h
/-- What a job that may be has. -/
structure JbIn (j : Jb) : Prop where
  id : 1 ≤ j.id ∧ j.id ≤ 1099511627776
  na : j.na.length ≤ 32
  pa : j.pa.length ≤ 200
  st : 1 ≤ j.st ∧ j.st ≤ 3
  du : 0 ≤ j.du ∧ j.du ≤ 32503680000
  tr : 0 ≤ j.tr ∧ j.tr ≤ 16
  ru : j.ru = [] ∨ ((parseR j.ru).2 = 0 ∧ j.st ≠ 3 ∧ j.ru.length ≤ 200)
  held : j.st = 2 → (1 ≤ j.wk ∧ j.wk ≤ 2147483648) ∧ (1 ≤ j.tk ∧ j.tk ≤ 1099511627776) ∧ (0 ≤ j.un ∧ j.un ≤ 32503680000) ∧ j.du = 0
  free : j.st ≠ 2 → j.wk = 0 ∧ j.tk = 0 ∧ j.un = 0
theorem jb_in {j : Jb} (h : chkJ j = 0) : JbIn j := by
  obtain ⟨ha, hr, hl⟩ := chkJ_parts h
  unfold chkA at ha
  simp only [Bool.and_eq_true, Bool.not_eq_true', decide_eq_false_iff_not] at ha
  obtain ⟨a0, a1, a2, a3, a4, a5⟩ := ha
  unfold chkR at hr
  simp only [Bool.or_eq_true, Bool.and_eq_true, Bool.not_eq_true', decide_eq_true_eq, decide_eq_false_iff_not, beq_iff_eq, beq_eq_false_iff_ne] at hr
  unfold chkL at hl
  simp only [Bool.and_eq_true] at hl
  obtain ⟨l1, l2⟩ := hl
  refine ⟨inB_iff.1 a0, by omega, by omega, inB_iff.1 a3, inB_iff.1 a4, inB_iff.1 a5, ?_, fun hs => ?_, fun hs => ?_⟩
  · rcases hr with hr | ⟨r1, r2, r3⟩
    · exact .inl hr
    · exact .inr ⟨r1, r2, by omega⟩
  · rw [show (j.st == 2) = true by simpa using hs] at l1
    have l1 : chkH j = true := by simpa using l1
    unfold chkH at l1
    simp only [Bool.and_eq_true, beq_iff_eq] at l1
    exact ⟨inB_iff.1 l1.1, inB_iff.1 l1.2.1, inB_iff.1 l1.2.2.1, l1.2.2.2⟩
  · rw [show (j.st == 2) = false by simpa using hs] at l2
    simp at l2
    exact l2
theorem nums_in {j : Jb} (h : chkJ j = 0) : ∀ x ∈ numsJ j, 0 ≤ x ∧ x ≤ 1099511627776 := by
  have H := jb_in h
  obtain ⟨i0, -, -, s0, d0, t0, -, h1, h2⟩ := H
  intro x hx
  simp only [numsJ, List.mem_cons, List.not_mem_nil, or_false] at hx
  by_cases hs : j.st = 2
  · obtain ⟨w, k, u, -⟩ := h1 hs
    rcases hx with rfl | rfl | rfl | rfl | rfl | rfl | rfl <;> omega
  · obtain ⟨w, k, u⟩ := h2 hs
    rcases hx with rfl | rfl | rfl | rfl | rfl | rfl | rfl <;> omega
theorem texts_in {j : Jb} (h : chkJ j = 0) : ∀ x ∈ textsJ j, x.length ≤ 200 := by
  have H := jb_in h
  intro x hx
  simp only [textsJ, List.mem_cons, List.not_mem_nil, or_false] at hx
  have a := H.na
  have b := H.pa
  have c : j.ru.length ≤ 200 := by
    rcases H.ru with e | ⟨-, -, e⟩
    · rw [e]; simp
    · exact e
  rcases hx with rfl | rfl | rfl <;> omega
end Go.Proofs.YtpjmieiajhhbaaaDoor
