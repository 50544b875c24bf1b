/- The states that the law FilesReads walks through. -/
import Derived.Test.YtoceddpjkodfkaaR7
namespace Go.Proofs.Ytoceddpjkodfkaa
open Go.RowKit
set_option linter.unusedVariables false
set_option linter.unusedSimpArgs false

def stR (want : List Int) (syn : Int) : St := ⟨1048576, [(1, want, syn)], [([97], 1)], [], 2⟩

theorem stR_check {want : List Int} {syn : Int} (h0 : 0 ≤ syn) (h1 : syn ≤ want.length) (h2 : want.length ≤ 1048576) : checkP (stR want syn) = true := by
  have b1 : boundsOf (stR want syn) = true := by simp [boundsOf, stR]
  have b2 : filesMayOf (stR want syn) = true := by
    simp [filesMayOf, stR, okFile, prevId, usedOf, h0, h1]
    omega
  have t1 : thereF [(1, want, syn)] 1 = true := by simp [thereF, rankF, rankOf]
  have b3 : namesMayOf (stR want syn).files (stR want syn).names = true := by
    have : mayOf [97] = true := by decide
    simp [namesMayOf, stR, okNameP, nameAt, t1, this, idsOf, addId]
  have b4 : namesMayOf (stR want syn).files (stR want syn).safe = true := by simp [namesMayOf, stR, idsOf]
  have b5 : allNamedOf (stR want syn) = true := by simp [allNamedOf, stR, idsOf, addId]
  unfold checkP
  rw [b1, b2, b3, b4, b5]
  rfl

theorem stR_there (want : List Int) (syn : Int) : thereN (stR want syn).names [97] = true ∧ rankN (stR want syn).names [97] = 0 ∧ idN (stR want syn) [97] = 1 ∧ thereF (stR want syn).files 1 = true ∧ rankF (stR want syn).files 1 = 0 := by
  have l : lessL [97] [97] = false := by decide
  refine ⟨?_, ?_, ?_, ?_, ?_⟩ <;> simp [thereN, rankN, rankOf, stR, l, idN, thereF, rankF]

theorem stR_has (want : List Int) (syn : Int) : hasF (stR want syn) [97] = true ∧ idxF (stR want syn) [97] = 0 ∧ fileD (stR want syn) 0 = (1, want, syn) := by
  obtain ⟨h1, h2, h3, h4, h5⟩ := stR_there want syn
  refine ⟨?_, ?_, rfl⟩
  · unfold hasF; rw [h3, h1, h4]; rfl
  · unfold idxF; rw [h3, h5]

theorem stR_extend {want d : List Int} {syn : Int} (h0 : 0 ≤ syn) (h1 : syn ≤ want.length) (h2 : want.length ≤ 1048576) : doP (stR want syn) ⟨2, [97], [], d⟩ = if 1048576 - (want.length : Int) < (d.length : Int) then (z0, 51) else (stR (want ++ d) syn, 0) := by
  obtain ⟨g1, g2, g3⟩ := stR_has want syn
  have hu : usedOf (stR want syn).files = want.length := by simp [usedOf, stR]
  have hc : (stR want syn).cap = 1048576 := rfl
  have ha : actP (stR want syn) ⟨2, [97], [], d⟩ = extendP (stR want syn) [97] d := by simp [actP]
  unfold doP
  rw [stR_check h0 h1 h2, ha]
  unfold extendP
  rw [g1, g2, g3, hu, hc]
  by_cases c : 1048576 - (want.length : Int) < (d.length : Int)
  · simp [c]
  · simp [c, stR]

theorem stR_sync {want : List Int} {syn : Int} (h0 : 0 ≤ syn) (h1 : syn ≤ want.length) (h2 : want.length ≤ 1048576) : doP (stR want syn) ⟨3, [97], [], []⟩ = (stR want want.length, 0) := by
  obtain ⟨g1, g2, g3⟩ := stR_has want syn
  have ha : actP (stR want syn) ⟨3, [97], [], []⟩ = syncP (stR want syn) [97] := by simp [actP]
  unfold doP
  rw [stR_check h0 h1 h2, ha]
  unfold syncP
  rw [g1, g2, g3]
  simp [stR]

theorem stR_read {want : List Int} {syn : Int} (h0 : 0 ≤ syn) (h1 : syn ≤ want.length) (h2 : want.length ≤ 1048576) : readP (stR want syn) [97] = (want, 0) := by
  obtain ⟨g1, g2, g3⟩ := stR_has want syn
  unfold readP
  rw [stR_check h0 h1 h2, g1, g2, g3]
  rfl

theorem stR_new : newP 1048576 = (⟨1048576, [], [], [], 1⟩, 0) := by kernel_rfl
theorem stR_first : doP ⟨1048576, [], [], [], 1⟩ ⟨1, [97], [], []⟩ = (stR [] 0, 0) := by kernel_rfl

theorem same_any (l m : List Int) (v u : Value) (w : World) (hv : Octs w v l) (hu : Octs w u m) : Calls Try.prog 21 #[v, u] w fun e w' => e = .returned (.bool (decide (l = m))) ∧ w' = w := by
  have k1 := run_convert_octs l v w hv
  have k2 := run_convert_octs m u w hu
  have HE : Hid (((strOfNums l).toList == (strOfNums m).toList) = decide (l = m)) := str_eq l m hv.1 hu.1
  go_enter Try.func21, Try.ntmps21
  go_wp2_with fail
  go_ret
  refine ⟨?_, rfl⟩
  rw [← HE.out]
  rfl
end Go.Proofs.Ytoceddpjkodfkaa
