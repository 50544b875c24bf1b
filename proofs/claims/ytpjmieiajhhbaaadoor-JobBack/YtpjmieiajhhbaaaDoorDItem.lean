/- Items as the program sees them, plainly. -/
import Derived.Test.YtpjmieiajhhbaaaDoorDEnds
import Derived.Test.YtpjmieiajhhbaaaDoorNParse
namespace Go.Proofs.YtpjmieiajhhbaaaDoor
set_option linter.unusedVariables false
set_option linter.unusedSimpArgs false

theorem weekN_bit (k j : Nat) : (weekN k).testBit j = ((decide (j < 7) && k.testBit j) || (decide (j = 0) && k.testBit 7)) := by
  unfold weekN
  rw [Nat.testBit_or, Nat.testBit_and, Nat.testBit_and, show (127 : Nat) = 2 ^ 7 - 1 from rfl, Nat.testBit_two_pow_sub_one, Bool.and_comm (k.testBit j)]
  congr 1
  by_cases h : j = 0
  · subst h
    rw [decide_eq_true rfl, Bool.true_and, show (128 : Nat) = 2 ^ 7 from rfl, Nat.testBit_div_two_pow]
    simp
  · rw [decide_eq_false h, Bool.false_and]
    have : Nat.testBit 1 j = false := by
      rw [show (1 : Nat) = 2 ^ 0 from rfl, Nat.testBit_two_pow]
      simp
      omega
    rw [this, Bool.and_false]
theorem weekN_lt (k : Nat) : weekN k < 128 := by
  refine Nat.lt_pow_two_of_testBit (n := 7) _ fun j hj => ?_
  rw [weekN_bit]
  have h1 : ¬ j < 7 := by omega
  have h2 : ¬ j = 0 := by omega
  simp [h1, h2]
theorem weekN_or (a b : Nat) : weekN (a ||| b) = weekN a ||| weekN b := by
  apply Nat.eq_of_testBit_eq
  intro j
  rw [Nat.testBit_or, weekN_bit, weekN_bit, weekN_bit, Nat.testBit_or, Nat.testBit_or]
  generalize a.testBit j = p
  generalize b.testBit j = q
  generalize a.testBit 7 = r
  generalize b.testBit 7 = s
  generalize decide (j < 7) = t
  generalize decide (j = 0) = u
  revert p q r s t u
  decide
/-- A set by a field's place: of the days of the week 7 is 0. -/
def foldN (i s : Nat) : Nat := if i = 4 then weekN s else s
def rset (a b st : Int) : Nat := setN 64 fun j => decide (a ≤ (j : Int)) && (decide ((j : Int) ≤ b) && decide (((j : Int) - a) % st = 0))
theorem rset_bit (a b st : Int) (j : Nat) (hj : j < 64) : (rset a b st).testBit j = (decide (a ≤ (j : Int)) && (decide ((j : Int) ≤ b) && decide (((j : Int) - a) % st = 0))) := by
  unfold rset
  rw [setN_bit, decide_eq_true hj, Bool.true_and]
theorem rset_lt (a b st : Int) : rset a b st < 18446744073709551616 := setN_lt 64 _
theorem rset_far {a b st : Int} {j : Nat} (h : b < (j : Int)) : (rset a b st).testBit j = false := by
  by_cases c : j < 64
  · rw [rset_bit a b st j c]
    have : ¬ (j : Int) ≤ b := by omega
    simp [this]
  · exact bit_far (rset_lt _ _ _) (by omega)
theorem rset_ne {a b st : Int} (h0 : 0 ≤ a) (h1 : a ≤ b) (h2 : b ≤ 63) : rset a b st ≠ 0 := by
  intro h
  have := rset_bit a b st a.toNat (by omega)
  rw [h, Nat.zero_testBit, show ((a.toNat : Nat) : Int) = a by omega] at this
  simp at this
  omega
theorem fold_ne {i a b st : Int} (k : Nat) (h0 : 0 ≤ a) (h1 : a ≤ b) (h2 : b ≤ 63) (hk : k = 4 → b ≤ 7) : foldN k (rset a b st) ≠ 0 := by
  unfold foldN
  split
  · rename_i h
    have h7 := hk h
    intro e
    have r := rset_bit a b st a.toNat (by omega)
    rw [show ((a.toNat : Nat) : Int) = a by omega] at r
    have t : (rset a b st).testBit a.toNat = true := by rw [r]; simp; omega
    by_cases c : a = 7
    · have w := weekN_bit (rset a b st) 0
      rw [e, Nat.zero_testBit] at w
      rw [show a.toNat = 7 by omega] at t
      rw [t] at w
      simp at w
    · have w := weekN_bit (rset a b st) a.toNat
      rw [e, Nat.zero_testBit, t, decide_eq_true (by omega : a.toNat < 7)] at w
      simp at w
  · exact rset_ne h0 h1 h2
theorem star_week (st : Int) (hst : 1 ≤ st) : weekN (rset 0 7 st) = weekN (rset 0 6 st) := by
  apply Nat.eq_of_testBit_eq
  intro j
  rw [weekN_bit, weekN_bit]
  by_cases h : j < 7
  · rw [rset_bit 0 7 st j (by omega), rset_bit 0 6 st j (by omega), rset_bit 0 7 st 7 (by omega), rset_bit 0 6 st 7 (by omega)]
    have e1 : decide ((j : Int) ≤ 7) = true := decide_eq_true (by omega)
    have e2 : decide ((j : Int) ≤ 6) = true := decide_eq_true (by omega)
    rw [e1, e2]
    by_cases q : j = 0
    · subst q
      simp
    · simp [q]
  · have q : ¬ j = 0 := by omega
    simp [h, q]
/-- An item's set, by its field's place. -/
def itemW (i : Nat) (l : List Int) : Nat := foldN i (itemN l (loN i) (topN i))
theorem numQ_ok {l : List Int} (h : (numQ l).2 = true) : (numQ l).1 = numD l ∧ 0 ≤ numD l := by
  unfold numQ at *
  split at h
  · cases h
  · rename_i q
    rw [if_neg q]
    exact ⟨rfl, by omega⟩
theorem numQ_not {l : List Int} (h : (numQ l).2 = false) : numD l < 0 := by
  unfold numQ at h
  split at h
  · assumption
  · cases h
theorem rngN_in {lo hi a b st : Int} (h : lo ≤ a ∧ a ≤ b ∧ b ≤ hi) : rngN lo hi a b st = rset a b st := by
  unfold rngN
  rw [if_neg (by omega)]
  rfl
theorem rngN_out {lo hi a b st : Int} (h : a < lo ∨ hi < b ∨ b < a) : rngN lo hi a b st = 0 := if_pos h
theorem span_ends {i : Nat} (hi : i < 5) (x : List Int) (st : Int) (hst : 1 ≤ st) (sb : Bool) :
    ((endsP (loN i) (hiN i) (topN i) x).2.2.2 = true → (sb = true → (endsP (loN i) (hiN i) (topN i) x).2.2.1 = true) →
      foldN i (itemR (spanP x (loN i) (topN i) sb) (loN i) (topN i) st) = foldN i (rset (endsP (loN i) (hiN i) (topN i) x).1 (endsP (loN i) (hiN i) (topN i) x).2.1 st)) ∧
    ((endsP (loN i) (hiN i) (topN i) x).2.2.2 = false ∨ (sb = true ∧ (endsP (loN i) (hiN i) (topN i) x).2.2.1 = false) → itemR (spanP x (loN i) (topN i) sb) (loN i) (topN i) st = 0) := by
  obtain ⟨l0, h0, t0, -, -⟩ := field_nums hi
  by_cases c : x = [42]
  · have e : endsP (loN i) (hiN i) (topN i) x = (loN i, hiN i, true, true) := if_pos c
    have s : spanP x (loN i) (topN i) sb = some (loN i, topN i) := if_pos c
    rw [e, s]
    refine ⟨fun _ _ => ?_, fun h => by rcases h with h | ⟨-, h⟩ <;> cases h⟩
    show foldN i (rngN (loN i) (topN i) (loN i) (topN i) st) = foldN i (rset (loN i) (hiN i) st)
    rw [rngN_in (by omega)]
    unfold foldN topN
    by_cases q : i = 4
    · subst q
      rw [if_pos rfl, if_pos rfl, if_pos rfl]
      exact star_week st hst
    · rw [if_neg q, if_neg q, if_neg q]
  · have e : endsP (loN i) (hiN i) (topN i) x = ((numQ (cutQ x 45).1).1, (numQ (lastT x)).1, (cutQ x 45).2.2, (numQ (cutQ x 45).1).2 && ((numQ (lastT x)).2 && (decide (loN i ≤ (numQ (cutQ x 45).1).1) && (decide ((numQ (cutQ x 45).1).1 ≤ (numQ (lastT x)).1) && decide ((numQ (lastT x)).1 ≤ topN i))))) := if_neg c
    rw [e]
    dsimp only
    generalize loN i = lo at *
    generalize hiN i = hh at *
    generalize topN i = top at *
    have key : ∀ u v : List Int, ((numQ u).2 && ((numQ v).2 && (decide (lo ≤ (numQ u).1) && (decide ((numQ u).1 ≤ (numQ v).1) && decide ((numQ v).1 ≤ top))))) = true → rngN lo top (numD u) (numD v) st = rset (numQ u).1 (numQ v).1 st := by
      intro u v h
      simp only [Bool.and_eq_true, decide_eq_true_eq] at h
      obtain ⟨h1, h2, h3, h4, h5⟩ := h
      have a := numQ_ok h1
      have b := numQ_ok h2
      rw [rngN_in (by omega), a.1, b.1]
    have key0 : ∀ u v : List Int, ((numQ u).2 && ((numQ v).2 && (decide (lo ≤ (numQ u).1) && (decide ((numQ u).1 ≤ (numQ v).1) && decide ((numQ v).1 ≤ top))))) = false → rngN lo top (numD u) (numD v) st = 0 := by
      intro u v h
      apply rngN_out
      cases h1 : (numQ u).2
      · have := numQ_not h1; omega
      · cases h2 : (numQ v).2
        · have := numQ_not h2
          have := numQ_ok h1
          omega
        · have a := numQ_ok h1
          have b := numQ_ok h2
          rw [h1, h2, a.1, b.1] at h
          by_cases c1 : lo ≤ numD u
          · by_cases c2 : numD u ≤ numD v
            · by_cases c3 : numD v ≤ top
              · simp [c1, c2, c3] at h
              · omega
            · omega
          · omega
    by_cases d : cutN x 45 < x.length
    · have q : cutQ x 45 = (x.take (cutN x 45), x.drop (cutN x 45 + 1), true) := if_pos d
      have t : lastT x = x.drop (cutN x 45 + 1) := by unfold lastT; rw [q]; rfl
      have s : spanP x lo top sb = some (numD (x.take (cutN x 45)), numD (x.drop (cutN x 45 + 1))) := by
        unfold spanP
        rw [if_neg c, if_pos d]
      rw [q, t, s]
      dsimp only
      refine ⟨fun h _ => ?_, fun h => ?_⟩
      · show foldN i (rngN lo top _ _ st) = _
        rw [key _ _ h]
      · rcases h with h | ⟨-, h⟩
        · exact key0 _ _ h
        · cases h
    · have q : cutQ x 45 = (x, [], false) := if_neg d
      have t : lastT x = x := by unfold lastT; rw [q]; rfl
      have s : spanP x lo top sb = if sb then none else some (numD x, numD x) := by
        unfold spanP
        rw [if_neg c, if_neg d]
      rw [q, t, s]
      dsimp only
      cases sb
      · refine ⟨fun h _ => ?_, fun h => ?_⟩
        · show foldN i (rngN lo top _ _ st) = _
          rw [key _ _ h]
        · rcases h with h | ⟨h, -⟩
          · exact key0 _ _ h
          · cases h
      · exact ⟨fun _ h => absurd (h rfl) (by simp), fun _ => rfl⟩
theorem ends_in {i : Nat} (hi : i < 5) (x : List Int) (h : (endsP (loN i) (hiN i) (topN i) x).2.2.2 = true) :
    0 ≤ (endsP (loN i) (hiN i) (topN i) x).1 ∧ (endsP (loN i) (hiN i) (topN i) x).1 ≤ (endsP (loN i) (hiN i) (topN i) x).2.1 ∧ (endsP (loN i) (hiN i) (topN i) x).2.1 ≤ topN i := by
  obtain ⟨l0, h0, t0, -, -⟩ := field_nums hi
  by_cases c : x = [42]
  · have e : endsP (loN i) (hiN i) (topN i) x = (loN i, hiN i, true, true) := if_pos c
    rw [e]
    exact ⟨l0.1, by show loN i ≤ hiN i; omega, t0.1⟩
  · have e : endsP (loN i) (hiN i) (topN i) x = ((numQ (cutQ x 45).1).1, (numQ (lastT x)).1, (cutQ x 45).2.2, (numQ (cutQ x 45).1).2 && ((numQ (lastT x)).2 && (decide (loN i ≤ (numQ (cutQ x 45).1).1) && (decide ((numQ (cutQ x 45).1).1 ≤ (numQ (lastT x)).1) && decide ((numQ (lastT x)).1 ≤ topN i))))) := if_neg c
    rw [e] at h ⊢
    dsimp only at h ⊢
    simp only [Bool.and_eq_true, decide_eq_true_eq] at h
    omega
/-- An item without a step. -/
theorem item_plain {i : Nat} (hi : i < 5) (l : List Int) (h : (cutQ l 47).2.2 = false) :
    ((endsP (loN i) (hiN i) (topN i) (cutQ l 47).1).2.2.2 = true → itemW i l = foldN i (rset (endsP (loN i) (hiN i) (topN i) (cutQ l 47).1).1 (endsP (loN i) (hiN i) (topN i) (cutQ l 47).1).2.1 1)) ∧
    ((endsP (loN i) (hiN i) (topN i) (cutQ l 47).1).2.2.2 = false → itemW i l = 0) := by
  by_cases c : cutN l 47 < l.length
  · have q : cutQ l 47 = (l.take (cutN l 47), l.drop (cutN l 47 + 1), true) := if_pos c
    rw [q] at h
    cases h
  · have q : cutQ l 47 = (l, [], false) := if_neg c
    rw [q]
    dsimp only
    have e : itemN l (loN i) (topN i) = itemR (spanP l (loN i) (topN i) false) (loN i) (topN i) 1 := if_neg c
    unfold itemW
    rw [e]
    obtain ⟨a, b⟩ := span_ends hi l 1 (by omega) false
    exact ⟨fun h => a h (fun h => by cases h), fun h => by rw [b (.inl h)]; unfold foldN; split <;> rfl⟩
/-- An item with a step. -/
theorem item_step {i : Nat} (hi : i < 5) (l : List Int) (h : (cutQ l 47).2.2 = true) :
    ((endsP (loN i) (hiN i) (topN i) (cutQ l 47).1).2.2.2 = true ∧ (numQ (cutQ l 47).2.1).2 = true ∧ 0 < (numQ (cutQ l 47).2.1).1 ∧ (endsP (loN i) (hiN i) (topN i) (cutQ l 47).1).2.2.1 = true →
      itemW i l = foldN i (rset (endsP (loN i) (hiN i) (topN i) (cutQ l 47).1).1 (endsP (loN i) (hiN i) (topN i) (cutQ l 47).1).2.1 (numQ (cutQ l 47).2.1).1)) ∧
    ((endsP (loN i) (hiN i) (topN i) (cutQ l 47).1).2.2.2 = false ∨ (numQ (cutQ l 47).2.1).2 = false ∨ (numQ (cutQ l 47).2.1).1 ≤ 0 ∨ (endsP (loN i) (hiN i) (topN i) (cutQ l 47).1).2.2.1 = false → itemW i l = 0) := by
  by_cases c : cutN l 47 < l.length
  · have q : cutQ l 47 = (l.take (cutN l 47), l.drop (cutN l 47 + 1), true) := if_pos c
    rw [q]
    dsimp only
    have e : itemN l (loN i) (topN i) = if numD (l.drop (cutN l 47 + 1)) < 1 then 0 else itemR (spanP (l.take (cutN l 47)) (loN i) (topN i) true) (loN i) (topN i) (numD (l.drop (cutN l 47 + 1))) := if_pos c
    have z : foldN i 0 = 0 := by unfold foldN; split <;> rfl
    unfold itemW
    rw [e]
    refine ⟨fun ⟨h1, h2, h3, h4⟩ => ?_, fun h => ?_⟩
    · have a := numQ_ok h2
      rw [if_neg (by omega), a.1]
      exact (span_ends hi _ _ (by omega) true).1 h1 (fun _ => h4)
    · by_cases d : numD (l.drop (cutN l 47 + 1)) < 1
      · rw [if_pos d, z]
      · rw [if_neg d]
        have k := (span_ends hi (l.take (cutN l 47)) (numD (l.drop (cutN l 47 + 1))) (by omega) true).2
        have nq : numQ (l.drop (cutN l 47 + 1)) = (numD (l.drop (cutN l 47 + 1)), true) := if_neg (by omega)
        rw [nq] at h
        rcases h with h | h | h | h
        · rw [k (.inl h), z]
        · cases h
        · dsimp only at h
          omega
        · rw [k (.inr ⟨rfl, h⟩), z]
  · have q : cutQ l 47 = (l, [], false) := if_neg c
    rw [q] at h
    cases h
end Go.Proofs.YtpjmieiajhhbaaaDoor
