/- The program's reader, in plain words: behind its first error it reads nothing any more. -/
import Derived.Test.YtbknoplfjfnbcaaEOct
namespace Go.Proofs.Ytbknoplfjfnbcaa
open Go.RowKit
set_option linter.unusedVariables false
set_option linter.unusedSimpArgs false

/-- What is left, and the first error. -/
def refS (c : Int) (s : List Int × Int) : List Int × Int := ([], if s.2 = 0 then c else s.2)
def codeS (l : List Int) : Int := if (getOf l).2.2 = 0 then (if 1099511627776 < (getOf l).1 then 1 else 0) else (getOf l).2.2
def numS (s : List Int × Int) : Int × (List Int × Int) := if codeS s.1 = 0 then ((getOf s.1).1, (s.1.drop (getOf s.1).2.1.toNat, s.2)) else (0, refS (codeS s.1) s)
def cntS (s : List Int × Int) : Int × (List Int × Int) := if 256 < (numS s).1 then (0, refS 3 (numS s).2) else numS s
def txtS (s : List Int × Int) : ByteArray × (List Int × Int) :=
  if 96 < (numS s).1 then (⟨#[]⟩, refS 1 (numS s).2) else if ((numS s).2.1.length : Int) < (numS s).1 then (⟨#[]⟩, refS 8 (numS s).2) else (strOfNums ((numS s).2.1.take (numS s).1.toNat), ((numS s).2.1.drop (numS s).1.toNat, (numS s).2.2))
def metS (s : List Int × Int) : Me × (List Int × Int) :=
  (⟨(numS s).1, (numS (numS s).2).1, (numS (numS (numS s).2).2).1, (txtS (numS (numS (numS s).2).2).2).1, (txtS (txtS (numS (numS (numS s).2).2).2).2).1⟩, (txtS (txtS (numS (numS (numS s).2).2).2).2).2)
def idsS : Nat → List Int × Int → List Int × (List Int × Int)
  | 0, s => ([], s)
  | n + 1, s => ((numS s).1 :: (idsS n (numS s).2).1, (idsS n (numS s).2).2)
def metsS : Nat → List Int × Int → List Me × (List Int × Int)
  | 0, s => ([], s)
  | n + 1, s => ((metS s).1 :: (metsS n (metS s).2).1, (metsS n (metS s).2).2)

/-- A reader and its plain twin: what the twin reads it reads; where the twin errs it errs, and stays so. -/
structure Twin {A : Type} (f : List Int × Int → A × (List Int × Int)) (q : List Int → Except Int (A × List Int)) : Prop where
  good : ∀ l v r, q l = .ok (v, r) → f (l, 0) = (v, (r, 0))
  bad : ∀ l c, q l = .error c → (f (l, 0)).2 = ([], c) ∧ c ≠ 0
  stay : ∀ c, c ≠ 0 → (f ([], c)).2 = ([], c)
theorem getOf_nil : (getOf []).2.2 ≠ 0 := by decide
theorem codeS_nil : codeS [] ≠ 0 := by decide
theorem numQ_code (l : List Int) : numQ 1099511627776 1 l = if codeS l = 0 then .ok ((getOf l).1, l.drop (getOf l).2.1.toNat) else .error (codeS l) := by
  unfold numQ codeS
  by_cases h : (getOf l).2.2 = 0
  · rw [if_pos h, if_pos h]
    by_cases h2 : 1099511627776 < (getOf l).1
    · rw [if_pos h2, if_pos h2, if_neg (by decide)]
    · rw [if_neg h2, if_neg h2, if_pos rfl]
  · rw [if_neg h, if_neg h, if_neg h]
theorem numS_twin : Twin numS (numQ 1099511627776 1) where
  good l v r h := by
    rw [numQ_code] at h
    unfold numS
    split at h
    · rename_i q
      simp only [Except.ok.injEq, Prod.mk.injEq] at h
      simp only [q, if_true, h]
    · cases h
  bad l c h := by
    rw [numQ_code] at h
    unfold numS
    split at h
    · cases h
    · rename_i q
      simp only [Except.error.injEq] at h
      subst h
      simp only [q, if_false, refS, if_true]
      exact ⟨trivial, q⟩
  stay c hc := by
    unfold numS
    simp only [codeS_nil, if_false, refS, hc]
theorem cntS_twin : Twin cntS cntQ where
  good l v r h := by
    unfold cntQ at h
    cases e : numQ 1099511627776 1 l with
    | error c => rw [e] at h; cases h
    | ok w =>
      obtain ⟨n, q⟩ := w
      rw [e] at h
      have := numS_twin.good l n q e
      unfold cntS
      rw [this]
      simp only at h ⊢
      by_cases k : 256 < n
      · rw [if_pos k] at h; cases h
      · rw [if_neg k] at h
        rw [if_neg k]
        simp only [Except.ok.injEq, Prod.mk.injEq] at h
        rw [h.1, h.2]
  bad l c h := by
    unfold cntQ at h
    cases e : numQ 1099511627776 1 l with
    | error d =>
      rw [e] at h
      simp only [Except.error.injEq] at h
      subst h
      have := numS_twin.bad l d e
      unfold cntS
      by_cases k : 256 < (numS (l, 0)).1
      · rw [if_pos k]
        simp only [refS, this.1, this.2, if_false]
        exact ⟨trivial, this.2⟩
      · rw [if_neg k]; exact this
    | ok w =>
      obtain ⟨n, q⟩ := w
      rw [e] at h
      have := numS_twin.good l n q e
      unfold cntS
      rw [this]
      simp only at h ⊢
      by_cases k : 256 < n
      · rw [if_pos k] at h
        rw [if_pos k]
        simp only [Except.error.injEq] at h
        subst h
        simp only [refS, if_true]
        exact ⟨trivial, by decide⟩
      · rw [if_neg k] at h; cases h
  stay c hc := by
    unfold cntS
    have := numS_twin.stay c hc
    by_cases k : 256 < (numS ([], c)).1
    · rw [if_pos k]
      simp only [refS, this, hc, if_false]
    · rw [if_neg k]; exact this
theorem txtS_twin : Twin txtS txtP where
  good l v r h := by
    unfold txtP at h
    cases e : numQ 1099511627776 1 l with
    | error c => rw [e] at h; cases h
    | ok w =>
      obtain ⟨n, q⟩ := w
      rw [e] at h
      have := numS_twin.good l n q e
      unfold txtS
      rw [this]
      simp only at h ⊢
      by_cases k : 96 < n
      · rw [if_pos k] at h; cases h
      · rw [if_neg k] at h
        rw [if_neg k]
        by_cases k2 : (q.length : Int) < n
        · rw [if_pos k2] at h; cases h
        · rw [if_neg k2] at h
          rw [if_neg k2]
          simp only [Except.ok.injEq, Prod.mk.injEq] at h
          rw [h.1, h.2]
  bad l c h := by
    unfold txtP at h
    cases e : numQ 1099511627776 1 l with
    | error d =>
      rw [e] at h
      simp only [Except.error.injEq] at h
      subst h
      have := numS_twin.bad l d e
      unfold txtS
      by_cases k : 96 < (numS (l, 0)).1
      · rw [if_pos k]
        simp only [refS, this.1, this.2, if_false]
        exact ⟨trivial, this.2⟩
      · rw [if_neg k]
        by_cases k2 : ((numS (l, 0)).2.1.length : Int) < (numS (l, 0)).1
        · rw [if_pos k2]
          simp only [refS, this.1, this.2, if_false]
          exact ⟨trivial, this.2⟩
        · rw [if_neg k2]
          simp only [this.1, List.drop_nil]
          exact ⟨trivial, this.2⟩
    | ok w =>
      obtain ⟨n, q⟩ := w
      rw [e] at h
      have := numS_twin.good l n q e
      unfold txtS
      rw [this]
      simp only at h ⊢
      by_cases k : 96 < n
      · rw [if_pos k] at h
        rw [if_pos k]
        simp only [Except.error.injEq] at h
        subst h
        simp only [refS, if_true]
        exact ⟨trivial, by decide⟩
      · rw [if_neg k] at h
        rw [if_neg k]
        by_cases k2 : (q.length : Int) < n
        · rw [if_pos k2] at h
          rw [if_pos k2]
          simp only [Except.error.injEq] at h
          subst h
          simp only [refS, if_true]
          exact ⟨trivial, by decide⟩
        · rw [if_neg k2] at h; cases h
  stay c hc := by
    unfold txtS
    have := numS_twin.stay c hc
    by_cases k : 96 < (numS ([], c)).1
    · rw [if_pos k]
      simp only [refS, this, hc, if_false]
    · rw [if_neg k]
      by_cases k2 : ((numS ([], c)).2.1.length : Int) < (numS ([], c)).1
      · rw [if_pos k2]
        simp only [refS, this, hc, if_false]
      · rw [if_neg k2]
        simp only [this, List.drop_nil]
/-- A reader's state behind the twin's answer. -/
theorem Twin.at {A : Type} {f : List Int × Int → A × (List Int × Int)} {q : List Int → Except Int (A × List Int)} (t : Twin f q) (l : List Int) : (∃ v r, q l = .ok (v, r) ∧ f (l, 0) = (v, (r, 0))) ∨ (∃ c, q l = .error c ∧ (f (l, 0)).2 = ([], c) ∧ c ≠ 0) := by
  cases h : q l with
  | error c => exact .inr ⟨c, rfl, t.bad l c h⟩
  | ok w => obtain ⟨v, r⟩ := w; exact .inl ⟨v, r, rfl, t.good l v r h⟩
theorem metS_twin : Twin metS metP where
  good l v r h := by
    unfold metP at h
    rcases numS_twin.at l with ⟨i, l1, e1, s1⟩ | ⟨c, e1, _⟩
    case inr => rw [e1] at h; cases h
    rw [e1] at h
    rcases numS_twin.at l1 with ⟨j, l2, e2, s2⟩ | ⟨c, e2, _⟩
    case inr => simp only at h; rw [e2] at h; cases h
    simp only at h
    rw [e2] at h
    rcases numS_twin.at l2 with ⟨k, l3, e3, s3⟩ | ⟨c, e3, _⟩
    case inr => simp only at h; rw [e3] at h; cases h
    simp only at h
    rw [e3] at h
    rcases txtS_twin.at l3 with ⟨lo, l4, e4, s4⟩ | ⟨c, e4, _⟩
    case inr => simp only at h; rw [e4] at h; cases h
    simp only at h
    rw [e4] at h
    rcases txtS_twin.at l4 with ⟨hi, l5, e5, s5⟩ | ⟨c, e5, _⟩
    case inr => simp only at h; rw [e5] at h; cases h
    simp only at h
    rw [e5] at h
    simp only [Except.ok.injEq, Prod.mk.injEq] at h
    unfold metS
    simp only [s1, s2, s3, s4, s5]
    rw [h.1, h.2]
  bad l c h := by
    have st : ∀ d, d ≠ 0 → (txtS (txtS ([], d)).2).2 = ([], d) := fun d hd => by rw [txtS_twin.stay d hd, txtS_twin.stay d hd]
    unfold metP at h
    rcases numS_twin.at l with ⟨i, l1, e1, s1⟩ | ⟨d, e1, s1, hd⟩
    case inr =>
      rw [e1] at h
      simp only [Except.error.injEq] at h
      subst h
      unfold metS
      simp only [s1, numS_twin.stay d hd, st d hd]
      exact ⟨trivial, hd⟩
    rw [e1] at h
    simp only at h
    rcases numS_twin.at l1 with ⟨j, l2, e2, s2⟩ | ⟨d, e2, s2, hd⟩
    case inr =>
      rw [e2] at h
      simp only [Except.error.injEq] at h
      subst h
      unfold metS
      simp only [s1, s2, numS_twin.stay d hd, st d hd]
      exact ⟨trivial, hd⟩
    rw [e2] at h
    simp only at h
    rcases numS_twin.at l2 with ⟨k, l3, e3, s3⟩ | ⟨d, e3, s3, hd⟩
    case inr =>
      rw [e3] at h
      simp only [Except.error.injEq] at h
      subst h
      unfold metS
      simp only [s1, s2, s3, st d hd]
      exact ⟨trivial, hd⟩
    rw [e3] at h
    simp only at h
    rcases txtS_twin.at l3 with ⟨lo, l4, e4, s4⟩ | ⟨d, e4, s4, hd⟩
    case inr =>
      rw [e4] at h
      simp only [Except.error.injEq] at h
      subst h
      unfold metS
      simp only [s1, s2, s3, s4, txtS_twin.stay d hd]
      exact ⟨trivial, hd⟩
    rw [e4] at h
    simp only at h
    rcases txtS_twin.at l4 with ⟨hi, l5, e5, s5⟩ | ⟨d, e5, s5, hd⟩
    case inr =>
      rw [e5] at h
      simp only [Except.error.injEq] at h
      subst h
      unfold metS
      simp only [s1, s2, s3, s4, s5]
      exact ⟨trivial, hd⟩
    rw [e5] at h
    cases h
  stay c hc := by
    unfold metS
    simp only [numS_twin.stay c hc, txtS_twin.stay c hc]
theorem idsS_twin : ∀ n, Twin (idsS n) (idsP n)
  | 0 => ⟨fun l v r h => by simp only [idsP, Except.ok.injEq, Prod.mk.injEq] at h; rw [idsS, h.1, h.2], fun l c h => (by cases h), fun c hc => rfl⟩
  | n + 1 => by
    have t := idsS_twin n
    refine ⟨fun l v r h => ?_, fun l c h => ?_, fun c hc => ?_⟩
    · rw [idsP] at h
      rcases numS_twin.at l with ⟨i, l1, e1, s1⟩ | ⟨c, e1, _⟩
      case inr => rw [e1] at h; cases h
      rw [e1] at h
      simp only at h
      rcases t.at l1 with ⟨js, l2, e2, s2⟩ | ⟨c, e2, _⟩
      case inr => rw [e2] at h; cases h
      rw [e2] at h
      simp only [Except.ok.injEq, Prod.mk.injEq] at h
      rw [idsS]
      simp only [s1, s2]
      rw [h.1, h.2]
    · rw [idsP] at h
      rcases numS_twin.at l with ⟨i, l1, e1, s1⟩ | ⟨d, e1, s1, hd⟩
      case inr =>
        rw [e1] at h
        simp only [Except.error.injEq] at h
        subst h
        rw [idsS]
        simp only [s1, t.stay d hd]
        exact ⟨trivial, hd⟩
      rw [e1] at h
      simp only at h
      rcases t.at l1 with ⟨js, l2, e2, s2⟩ | ⟨d, e2, s2, hd⟩
      case inr =>
        rw [e2] at h
        simp only [Except.error.injEq] at h
        subst h
        rw [idsS]
        simp only [s1, s2]
        exact ⟨trivial, hd⟩
      rw [e2] at h
      cases h
    · rw [idsS]
      simp only [numS_twin.stay c hc, t.stay c hc]
theorem metsS_twin : ∀ n, Twin (metsS n) (metsP n)
  | 0 => ⟨fun l v r h => by simp only [metsP, Except.ok.injEq, Prod.mk.injEq] at h; rw [metsS, h.1, h.2], fun l c h => (by cases h), fun c hc => rfl⟩
  | n + 1 => by
    have t := metsS_twin n
    refine ⟨fun l v r h => ?_, fun l c h => ?_, fun c hc => ?_⟩
    · rw [metsP] at h
      rcases metS_twin.at l with ⟨i, l1, e1, s1⟩ | ⟨c, e1, _⟩
      case inr => rw [e1] at h; cases h
      rw [e1] at h
      simp only at h
      rcases t.at l1 with ⟨js, l2, e2, s2⟩ | ⟨c, e2, _⟩
      case inr => rw [e2] at h; cases h
      rw [e2] at h
      simp only [Except.ok.injEq, Prod.mk.injEq] at h
      rw [metsS]
      simp only [s1, s2]
      rw [h.1, h.2]
    · rw [metsP] at h
      rcases metS_twin.at l with ⟨i, l1, e1, s1⟩ | ⟨d, e1, s1, hd⟩
      case inr =>
        rw [e1] at h
        simp only [Except.error.injEq] at h
        subst h
        rw [metsS]
        simp only [s1, t.stay d hd]
        exact ⟨trivial, hd⟩
      rw [e1] at h
      simp only at h
      rcases t.at l1 with ⟨js, l2, e2, s2⟩ | ⟨d, e2, s2, hd⟩
      case inr =>
        rw [e2] at h
        simp only [Except.error.injEq] at h
        subst h
        rw [metsS]
        simp only [s1, s2]
        exact ⟨trivial, hd⟩
      rw [e2] at h
      cases h
    · rw [metsS]
      simp only [metS_twin.stay c hc, t.stay c hc]
end Go.Proofs.Ytbknoplfjfnbcaa
