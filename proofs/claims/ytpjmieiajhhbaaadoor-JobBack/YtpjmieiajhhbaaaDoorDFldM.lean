/- Fields as the program and the page see them are the same. -/
import Derived.Test.YtpjmieiajhhbaaaDoorDCutW
namespace Go.Proofs.YtpjmieiajhhbaaaDoor
set_option linter.unusedVariables false
set_option linter.unusedSimpArgs false

theorem itemR_far (o : Option (Int × Int)) (lo hi st : Int) (j : Nat) (h : hi < (j : Int)) : (itemR o lo hi st).testBit j = false := by
  cases o with
  | none => exact Nat.zero_testBit j
  | some q =>
    show (rngN lo hi q.1 q.2 st).testBit j = false
    unfold rngN
    split
    · exact Nat.zero_testBit j
    · exact rset_far (a := q.1) (st := st) (by omega)
theorem itemN_far (l : List Int) (lo hi : Int) (j : Nat) (h : hi < (j : Int)) : (itemN l lo hi).testBit j = false := by
  unfold itemN
  split
  · split
    · exact Nat.zero_testBit j
    · exact itemR_far _ _ _ _ _ h
  · exact itemR_far _ _ _ _ _ h
theorem week_zero {k : Nat} (hf : ∀ j, 7 < j → k.testBit j = false) (h : weekN k = 0) : k = 0 := by
  apply Nat.eq_of_testBit_eq
  intro j
  rw [Nat.zero_testBit]
  have w := weekN_bit k j
  have w0 := weekN_bit k 0
  rw [h, Nat.zero_testBit] at w w0
  have h7 : k.testBit 7 = false := by
    cases e : k.testBit 7
    · rfl
    · rw [e] at w0
      simp at w0
  by_cases c : j < 7
  · rw [decide_eq_true c, Bool.true_and, h7, Bool.and_false, Bool.or_false] at w
    exact w.symm
  · by_cases d : j = 7
    · subst d; exact h7
    · exact hf j (by omega)
theorem itemW_zero (i : Nat) (l : List Int) : (itemW i l == 0) = (itemN l (loN i) (topN i) == 0) := by
  unfold itemW foldN
  split
  · rename_i h
    subst h
    rw [Bool.eq_iff_iff, beq_iff_eq, beq_iff_eq]
    refine ⟨fun h => week_zero (fun j hj => itemN_far _ _ _ _ (by show (7 : Int) < _; omega)) h, fun h => by rw [h]; rfl⟩
  · rfl
theorem fold_or (i : Nat) (m : List Nat) (c : Nat) : (m.map (foldN i)).foldl (· ||| ·) (foldN i c) = foldN i (m.foldl (· ||| ·) c) := by
  induction m generalizing c with
  | nil => rfl
  | cons x m ih =>
    have e : foldN i c ||| foldN i x = foldN i (c ||| x) := by
      unfold foldN
      split
      · exact (weekN_or c x).symm
      · rfl
    show (m.map (foldN i)).foldl (· ||| ·) (foldN i c ||| foldN i x) = _
    rw [e, ih]
    rfl
theorem fold_zero (i : Nat) : foldN i 0 = 0 := by unfold foldN; split <;> rfl
theorem field_fold (i : Nat) (l : List Int) : fieldW i l = foldN i (fieldN l (loN i) (topN i)) := by
  unfold fieldW fieldN goF accW
  have e : ((splitN l 44).map fun x => itemN x (loN i) (topN i)).any (· == 0) = (splitN l 44).any (fun x => itemW i x == 0) := by
    rw [List.any_map]
    congr 1
    funext x
    exact (itemW_zero i x).symm
  rw [e]
  split
  · rw [fold_zero]
  · have := fold_or i ((splitN l 44).map fun x => itemN x (loN i) (topN i)) 0
    rw [fold_zero, List.map_map] at this
    exact this
theorem field_zero (i : Nat) (l : List Int) : fieldW i l = 0 ↔ fieldN l (loN i) (topN i) = 0 := by
  constructor
  · intro h
    have ex : ∃ j, j < (splitN l 44).length ∧ itemW i (nthL (splitN l 44) j) = 0 := Classical.byContradiction fun q => (field_good (i := i) (l := l) fun j hj h0 => q ⟨j, hj, h0⟩).2 h
    obtain ⟨j, hj, h0⟩ := ex
    unfold fieldN goF
    rw [if_pos]
    rw [List.any_eq_true]
    refine ⟨itemN (nthL (splitN l 44) j) (loN i) (topN i), List.mem_map.2 ⟨nthL (splitN l 44) j, by simp [nthL, List.getD, hj], rfl⟩, ?_⟩
    have := itemW_zero i (nthL (splitN l 44) j)
    rw [h0] at this
    exact this.symm
  · intro h
    rw [field_fold, h, fold_zero]
theorem rule_same (a b c d e : List Int) : ruleOf a b c d e = if fieldW 0 a = 0 ∨ fieldW 1 b = 0 ∨ fieldW 2 c = 0 ∨ fieldW 3 d = 0 ∨ fieldW 4 e = 0 then (ru0, 12) else (⟨fieldW 0 a, fieldW 1 b, fieldW 2 c, fieldW 3 d, fieldW 4 e, decide (c = [42]), decide (e = [42])⟩, 0) := by
  have z0 := field_zero 0 a
  have z1 := field_zero 1 b
  have z2 := field_zero 2 c
  have z3 := field_zero 3 d
  have z4 := field_zero 4 e
  have f0 : fieldW 0 a = fieldN a 0 59 := field_fold 0 a
  have f1 : fieldW 1 b = fieldN b 0 23 := field_fold 1 b
  have f2 : fieldW 2 c = fieldN c 1 31 := field_fold 2 c
  have f3 : fieldW 3 d = fieldN d 1 12 := field_fold 3 d
  have f4 : fieldW 4 e = weekN (fieldN e 0 7) := field_fold 4 e
  have z4 : fieldW 4 e = 0 ↔ fieldN e 0 7 = 0 := z4
  have w4 : weekN (if e = [42] then 127 else fieldN e 0 7) = fieldW 4 e := by
    by_cases q : e = [42]
    · rw [if_pos q, f4, q]
      decide +kernel
    · rw [if_neg q, f4]
  have s4 : (if e = [42] then 127 else fieldN e 0 7) = 0 ↔ fieldW 4 e = 0 := by
    by_cases q : e = [42]
    · rw [if_pos q, z4, q]
      decide +kernel
    · rw [if_neg q, z4]
  unfold ruleOf
  rw [w4, ← f0, ← f1, ← f2, ← f3]
  by_cases h : fieldW 0 a = 0 ∨ fieldW 1 b = 0 ∨ fieldW 2 c = 0 ∨ fieldW 3 d = 0 ∨ fieldW 4 e = 0
  · rw [if_pos h, if_pos]
    rw [s4]
    exact h
  · rw [if_neg h, if_neg]
    rw [s4]
    exact h
end Go.Proofs.YtpjmieiajhhbaaaDoor
