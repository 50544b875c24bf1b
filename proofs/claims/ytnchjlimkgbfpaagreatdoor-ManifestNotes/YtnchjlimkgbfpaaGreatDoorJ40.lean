/- The texts DMath, S1, S2, S3, V1, EArg, in this order. -/
import Derived.Test.YtnchjlimkgbfpaaGreatDoorJ27
import Derived.Test.YtnchjlimkgbfpaaGreatDoorJ18
import Derived.ProofKit
import Derived.OpenShut
import Derived.SizedLaws
import Derived.Lib.SmallJoins
import Derived.Test.YtnchjlimkgbfpaaGreatDoorRows
import Derived.Test.YtnchjlimkgbfpaaGreatDoorJ37
import Derived.Test.YtnchjlimkgbfpaaGreatDoorJ28
import Derived.ChangeSame
import Derived.Deep.Strs

namespace Go.Proofs.YtnchjlimkgbfpaaGreatDoor
open Go.RowKit
set_option linter.unusedVariables false
set_option maxRecDepth 20000
set_option linter.unusedSimpArgs false
def refS (c : Int) (s : List Int × Int) : List Int × Int := ([], if s.2 = 0 then c else s.2)
def codeS (l : List Int) : Int := if (getOf l).2.2 = 0 then (if 1099511627776 < (getOf l).1 then 1 else 0) else (getOf l).2.2
def numS (s : List Int × Int) : Int × (List Int × Int) := if codeS s.1 = 0 then ((getOf s.1).1, (s.1.drop (getOf s.1).2.1.toNat, s.2)) else (0, refS (codeS s.1) s)
def cntS (s : List Int × Int) : Int × (List Int × Int) := if 256 < (numS s).1 then (0, refS 3 (numS s).2) else numS s
def txtS (s : List Int × Int) : ByteArray × (List Int × Int) :=
  if 96 < (numS s).1 then (⟨#[]⟩, refS 1 (numS s).2) else if ((numS s).2.1.length : Int) < (numS s).1 then (⟨#[]⟩, refS 8 (numS s).2) else (strOfNums ((numS s).2.1.take (numS s).1.toNat), ((numS s).2.1.drop (numS s).1.toNat, (numS s).2.2))
def metS (s : List Int × Int) : Me × (List Int × Int) :=
  (⟨(numS s).1, (numS (numS s).2).1, (numS (numS (numS s).2).2).1, (txtS (numS (numS (numS s).2).2).2).1, (txtS (txtS (numS (numS (numS s).2).2).2).2).1⟩, (txtS (txtS (numS (numS (numS s).2).2).2).2).2)
def idsS : Nat → List Int × Int → List Int × (List Int × Int)
  | 0, s => ([], s)
  | n + 1, s => ((numS s).1 :: (idsS n (numS s).2).1, (idsS n (numS s).2).2)
def metsS : Nat → List Int × Int → List Me × (List Int × Int)
  | 0, s => ([], s)
  | n + 1, s => ((metS s).1 :: (metsS n (metS s).2).1, (metsS n (metS s).2).2)
structure Twin {A : Type} (f : List Int × Int → A × (List Int × Int)) (q : List Int → Except Int (A × List Int)) : Prop where
  good : ∀ l v r, q l = .ok (v, r) → f (l, 0) = (v, (r, 0))
  bad : ∀ l c, q l = .error c → (f (l, 0)).2 = ([], c) ∧ c ≠ 0
  stay : ∀ c, c ≠ 0 → (f ([], c)).2 = ([], c)
theorem codeS_nil : codeS [] ≠ 0 := by decide
theorem numQ_code (l : List Int) : numQ 1099511627776 1 l = if codeS l = 0 then .ok ((getOf l).1, l.drop (getOf l).2.1.toNat) else .error (codeS l) := by
  unfold numQ codeS
  by_cases h : (getOf l).2.2 = 0
  · rw [if_pos h, if_pos h]
    by_cases h2 : 1099511627776 < (getOf l).1
    · rw [if_pos h2, if_pos h2, if_neg (by decide)]
    · rw [if_neg h2, if_neg h2, if_pos rfl]
  · rw [if_neg h, if_neg h, if_neg h]
theorem numS_twin : Twin numS (numQ 1099511627776 1) where
  good l v r h := by
    rw [numQ_code] at h
    unfold numS
    split at h
    · rename_i q
      simp only [Except.ok.injEq, Prod.mk.injEq] at h
      simp only [q, if_true, h]
    · cases h
  bad l c h := by
    rw [numQ_code] at h
    unfold numS
    split at h
    · cases h
    · rename_i q
      simp only [Except.error.injEq] at h
      subst h
      simp only [q, if_false, refS, if_true]
      exact ⟨trivial, q⟩
  stay c hc := by
    unfold numS
    simp only [codeS_nil, if_false, refS, hc]
theorem cntS_twin : Twin cntS cntQ where
  good l v r h := by
    unfold cntQ at h
    cases e : numQ 1099511627776 1 l with
    | error c => rw [e] at h; cases h
    | ok w =>
      obtain ⟨n, q⟩ := w
      rw [e] at h
      have := numS_twin.good l n q e
      unfold cntS
      rw [this]
      simp only at h ⊢
      by_cases k : 256 < n
      · rw [if_pos k] at h; cases h
      · rw [if_neg k] at h
        rw [if_neg k]
        simp only [Except.ok.injEq, Prod.mk.injEq] at h
        rw [h.1, h.2]
  bad l c h := by
    unfold cntQ at h
    cases e : numQ 1099511627776 1 l with
    | error d =>
      rw [e] at h
      simp only [Except.error.injEq] at h
      subst h
      have := numS_twin.bad l d e
      unfold cntS
      by_cases k : 256 < (numS (l, 0)).1
      · rw [if_pos k]
        simp only [refS, this.1, this.2, if_false]
        exact ⟨trivial, this.2⟩
      · rw [if_neg k]; exact this
    | ok w =>
      obtain ⟨n, q⟩ := w
      rw [e] at h
      have := numS_twin.good l n q e
      unfold cntS
      rw [this]
      simp only at h ⊢
      by_cases k : 256 < n
      · rw [if_pos k] at h
        rw [if_pos k]
        simp only [Except.error.injEq] at h
        subst h
        simp only [refS, if_true]
        exact ⟨trivial, by decide⟩
      · rw [if_neg k] at h; cases h
  stay c hc := by
    unfold cntS
    have := numS_twin.stay c hc
    by_cases k : 256 < (numS ([], c)).1
    · rw [if_pos k]
      simp only [refS, this, hc, if_false]
    · rw [if_neg k]; exact this
theorem txtS_twin : Twin txtS txtP where
  good l v r h := by
    unfold txtP at h
    cases e : numQ 1099511627776 1 l with
    | error c => rw [e] at h; cases h
    | ok w =>
      obtain ⟨n, q⟩ := w
      rw [e] at h
      have := numS_twin.good l n q e
      unfold txtS
      rw [this]
      simp only at h ⊢
      by_cases k : 96 < n
      · rw [if_pos k] at h; cases h
      · rw [if_neg k] at h
        rw [if_neg k]
        by_cases k2 : (q.length : Int) < n
        · rw [if_pos k2] at h; cases h
        · rw [if_neg k2] at h
          rw [if_neg k2]
          simp only [Except.ok.injEq, Prod.mk.injEq] at h
          rw [h.1, h.2]
  bad l c h := by
    unfold txtP at h
    cases e : numQ 1099511627776 1 l with
    | error d =>
      rw [e] at h
      simp only [Except.error.injEq] at h
      subst h
      have := numS_twin.bad l d e
      unfold txtS
      by_cases k : 96 < (numS (l, 0)).1
      · rw [if_pos k]
        simp only [refS, this.1, this.2, if_false]
        exact ⟨trivial, this.2⟩
      · rw [if_neg k]
        by_cases k2 : ((numS (l, 0)).2.1.length : Int) < (numS (l, 0)).1
        · rw [if_pos k2]
          simp only [refS, this.1, this.2, if_false]
          exact ⟨trivial, this.2⟩
        · rw [if_neg k2]
          simp only [this.1, List.drop_nil]
          exact ⟨trivial, this.2⟩
    | ok w =>
      obtain ⟨n, q⟩ := w
      rw [e] at h
      have := numS_twin.good l n q e
      unfold txtS
      rw [this]
      simp only at h ⊢
      by_cases k : 96 < n
      · rw [if_pos k] at h
        rw [if_pos k]
        simp only [Except.error.injEq] at h
        subst h
        simp only [refS, if_true]
        exact ⟨trivial, by decide⟩
      · rw [if_neg k] at h
        rw [if_neg k]
        by_cases k2 : (q.length : Int) < n
        · rw [if_pos k2] at h
          rw [if_pos k2]
          simp only [Except.error.injEq] at h
          subst h
          simp only [refS, if_true]
          exact ⟨trivial, by decide⟩
        · rw [if_neg k2] at h; cases h
  stay c hc := by
    unfold txtS
    have := numS_twin.stay c hc
    by_cases k : 96 < (numS ([], c)).1
    · rw [if_pos k]
      simp only [refS, this, hc, if_false]
    · rw [if_neg k]
      by_cases k2 : ((numS ([], c)).2.1.length : Int) < (numS ([], c)).1
      · rw [if_pos k2]
        simp only [refS, this, hc, if_false]
      · rw [if_neg k2]
        simp only [this, List.drop_nil]
theorem Twin.at {A : Type} {f : List Int × Int → A × (List Int × Int)} {q : List Int → Except Int (A × List Int)} (t : Twin f q) (l : List Int) : (∃ v r, q l = .ok (v, r) ∧ f (l, 0) = (v, (r, 0))) ∨ (∃ c, q l = .error c ∧ (f (l, 0)).2 = ([], c) ∧ c ≠ 0) := by
  cases h : q l with
  | error c => exact .inr ⟨c, rfl, t.bad l c h⟩
  | ok w => obtain ⟨v, r⟩ := w; exact .inl ⟨v, r, rfl, t.good l v r h⟩
theorem metS_twin : Twin metS metP where
  good l v r h := by
    unfold metP at h
    rcases numS_twin.at l with ⟨i, l1, e1, s1⟩ | ⟨c, e1, _⟩
    case inr => rw [e1] at h; cases h
    rw [e1] at h
    rcases numS_twin.at l1 with ⟨j, l2, e2, s2⟩ | ⟨c, e2, _⟩
    case inr => simp only at h; rw [e2] at h; cases h
    simp only at h
    rw [e2] at h
    rcases numS_twin.at l2 with ⟨k, l3, e3, s3⟩ | ⟨c, e3, _⟩
    case inr => simp only at h; rw [e3] at h; cases h
    simp only at h
    rw [e3] at h
    rcases txtS_twin.at l3 with ⟨lo, l4, e4, s4⟩ | ⟨c, e4, _⟩
    case inr => simp only at h; rw [e4] at h; cases h
    simp only at h
    rw [e4] at h
    rcases txtS_twin.at l4 with ⟨hi, l5, e5, s5⟩ | ⟨c, e5, _⟩
    case inr => simp only at h; rw [e5] at h; cases h
    simp only at h
    rw [e5] at h
    simp only [Except.ok.injEq, Prod.mk.injEq] at h
    unfold metS
    simp only [s1, s2, s3, s4, s5]
    rw [h.1, h.2]
  bad l c h := by
    have st : ∀ d, d ≠ 0 → (txtS (txtS ([], d)).2).2 = ([], d) := fun d hd => by rw [txtS_twin.stay d hd, txtS_twin.stay d hd]
    unfold metP at h
    rcases numS_twin.at l with ⟨i, l1, e1, s1⟩ | ⟨d, e1, s1, hd⟩
    case inr =>
      rw [e1] at h
      simp only [Except.error.injEq] at h
      subst h
      unfold metS
      simp only [s1, numS_twin.stay d hd, st d hd]
      exact ⟨trivial, hd⟩
    rw [e1] at h
    simp only at h
    rcases numS_twin.at l1 with ⟨j, l2, e2, s2⟩ | ⟨d, e2, s2, hd⟩
    case inr =>
      rw [e2] at h
      simp only [Except.error.injEq] at h
      subst h
      unfold metS
      simp only [s1, s2, numS_twin.stay d hd, st d hd]
      exact ⟨trivial, hd⟩
    rw [e2] at h
    simp only at h
    rcases numS_twin.at l2 with ⟨k, l3, e3, s3⟩ | ⟨d, e3, s3, hd⟩
    case inr =>
      rw [e3] at h
      simp only [Except.error.injEq] at h
      subst h
      unfold metS
      simp only [s1, s2, s3, st d hd]
      exact ⟨trivial, hd⟩
    rw [e3] at h
    simp only at h
    rcases txtS_twin.at l3 with ⟨lo, l4, e4, s4⟩ | ⟨d, e4, s4, hd⟩
    case inr =>
      rw [e4] at h
      simp only [Except.error.injEq] at h
      subst h
      unfold metS
      simp only [s1, s2, s3, s4, txtS_twin.stay d hd]
      exact ⟨trivial, hd⟩
    rw [e4] at h
    simp only at h
    rcases txtS_twin.at l4 with ⟨hi, l5, e5, s5⟩ | ⟨d, e5, s5, hd⟩
    case inr =>
      rw [e5] at h
      simp only [Except.error.injEq] at h
      subst h
      unfold metS
      simp only [s1, s2, s3, s4, s5]
      exact ⟨trivial, hd⟩
    rw [e5] at h
    cases h
  stay c hc := by
    unfold metS
    simp only [numS_twin.stay c hc, txtS_twin.stay c hc]
theorem idsS_twin : ∀ n, Twin (idsS n) (idsP n)
  | 0 => ⟨fun l v r h => by simp only [idsP, Except.ok.injEq, Prod.mk.injEq] at h; rw [idsS, h.1, h.2], fun l c h => (by cases h), fun c hc => rfl⟩
  | n + 1 => by
    have t := idsS_twin n
    refine ⟨fun l v r h => ?_, fun l c h => ?_, fun c hc => ?_⟩
    · rw [idsP] at h
      rcases numS_twin.at l with ⟨i, l1, e1, s1⟩ | ⟨c, e1, _⟩
      case inr => rw [e1] at h; cases h
      rw [e1] at h
      simp only at h
      rcases t.at l1 with ⟨js, l2, e2, s2⟩ | ⟨c, e2, _⟩
      case inr => rw [e2] at h; cases h
      rw [e2] at h
      simp only [Except.ok.injEq, Prod.mk.injEq] at h
      rw [idsS]
      simp only [s1, s2]
      rw [h.1, h.2]
    · rw [idsP] at h
      rcases numS_twin.at l with ⟨i, l1, e1, s1⟩ | ⟨d, e1, s1, hd⟩
      case inr =>
        rw [e1] at h
        simp only [Except.error.injEq] at h
        subst h
        rw [idsS]
        simp only [s1, t.stay d hd]
        exact ⟨trivial, hd⟩
      rw [e1] at h
      simp only at h
      rcases t.at l1 with ⟨js, l2, e2, s2⟩ | ⟨d, e2, s2, hd⟩
      case inr =>
        rw [e2] at h
        simp only [Except.error.injEq] at h
        subst h
        rw [idsS]
        simp only [s1, s2]
        exact ⟨trivial, hd⟩
      rw [e2] at h
      cases h
    · rw [idsS]
      simp only [numS_twin.stay c hc, t.stay c hc]
theorem metsS_twin : ∀ n, Twin (metsS n) (metsP n)
  | 0 => ⟨fun l v r h => by simp only [metsP, Except.ok.injEq, Prod.mk.injEq] at h; rw [metsS, h.1, h.2], fun l c h => (by cases h), fun c hc => rfl⟩
  | n + 1 => by
    have t := metsS_twin n
    refine ⟨fun l v r h => ?_, fun l c h => ?_, fun c hc => ?_⟩
    · rw [metsP] at h
      rcases metS_twin.at l with ⟨i, l1, e1, s1⟩ | ⟨c, e1, _⟩
      case inr => rw [e1] at h; cases h
      rw [e1] at h
      simp only at h
      rcases t.at l1 with ⟨js, l2, e2, s2⟩ | ⟨c, e2, _⟩
      case inr => rw [e2] at h; cases h
      rw [e2] at h
      simp only [Except.ok.injEq, Prod.mk.injEq] at h
      rw [metsS]
      simp only [s1, s2]
      rw [h.1, h.2]
    · rw [metsP] at h
      rcases metS_twin.at l with ⟨i, l1, e1, s1⟩ | ⟨d, e1, s1, hd⟩
      case inr =>
        rw [e1] at h
        simp only [Except.error.injEq] at h
        subst h
        rw [metsS]
        simp only [s1, t.stay d hd]
        exact ⟨trivial, hd⟩
      rw [e1] at h
      simp only at h
      rcases t.at l1 with ⟨js, l2, e2, s2⟩ | ⟨d, e2, s2, hd⟩
      case inr =>
        rw [e2] at h
        simp only [Except.error.injEq] at h
        subst h
        rw [metsS]
        simp only [s1, s2]
        exact ⟨trivial, hd⟩
      rw [e2] at h
      cases h
    · rw [metsS]
      simp only [metS_twin.stay c hc, t.stay c hc]
end Go.Proofs.YtnchjlimkgbfpaaGreatDoor

namespace Go.Proofs.YtnchjlimkgbfpaaGreatDoor
open Go.RowKit
set_option linter.unusedVariables false
set_option maxRecDepth 20000
set_option linter.unusedSimpArgs false
end Go.Proofs.YtnchjlimkgbfpaaGreatDoor

namespace Go.Proofs.YtnchjlimkgbfpaaGreatDoor
open Go.RowKit
set_option linter.unusedVariables false
set_option maxRecDepth 20000
set_option linter.unusedSimpArgs false
def BytesW (w : World) (v : Value) (l : List (List Int)) : Prop := ∃ m : List (Value × List Int), m.map (·.2) = l ∧ Rws 1 w v (m.map fun y => [y.1]) ∧ ∀ y ∈ m, Octs w y.1 y.2 ∧ y.2.length ≤ 140737488355328
def BoolsW (w : World) (v : Value) (l : List Bool) : Prop := Rws 1 w v (l.map fun b => [Value.bool b])
theorem BytesW.up {w w' : World} {v : Value} {l : List (List Int)} (h : BytesW w v l) (hb : Below w.heap.size w w') : BytesW w' v l := by
  obtain ⟨m, h1, h2, h3⟩ := h
  exact ⟨m, h1, h2.up hb, fun y hy => ⟨(h3 y hy).1.up hb, (h3 y hy).2⟩⟩
theorem BoolsW.up {w w' : World} {v : Value} {l : List Bool} (h : BoolsW w v l) (hb : Below w.heap.size w w') : BoolsW w' v l := Rws.up h hb
theorem BytesW.len {w : World} {v : Value} {l : List (List Int)} (h : BytesW w v l) : ∃ a cap, v = .slice a l.length cap ∧ l.length ≤ cap ∧ cap ≤ maxLen := by
  obtain ⟨m, rfl, h2, _⟩ := h
  obtain ⟨a, cap, e, h1, h2⟩ := h2.len
  rw [List.length_map] at e h1
  rw [List.length_map]
  exact ⟨a, cap, e, h1, h2⟩
theorem BoolsW.len {w : World} {v : Value} {l : List Bool} (h : BoolsW w v l) : ∃ a cap, v = .slice a l.length cap ∧ l.length ≤ cap ∧ cap ≤ maxLen := by
  obtain ⟨a, cap, e, h1, h2⟩ := Rws.len h
  rw [List.length_map] at e h1
  exact ⟨a, cap, e, h1, h2⟩
theorem BytesW.at {w : World} {v : Value} {l : List (List Int)} (h : BytesW w v l) (k : Nat) (hk : k < l.length) : ∃ b off cap ad cd, v = .slice (some ⟨b, off, none⟩) l.length cap ∧ w.cell? ⟨b, off + k, none⟩ = some (.slice ad (l.getD k []).length cd) ∧ Octs w (.slice ad (l.getD k []).length cd) (l.getD k []) ∧ (l.getD k []).length ≤ 140737488355328 := by
  obtain ⟨m, rfl, h2, h3⟩ := h
  rw [List.length_map] at hk ⊢
  obtain ⟨b, off, cap, e, _, _, hc⟩ := h2.at k (by rw [List.length_map]; exact hk)
  rw [List.length_map] at e
  have hr : (m.map fun y => [y.1]).getD k [] = [m[k].1] := by simp [List.getD, hk]
  have hr2 : (m.map (·.2)).getD k [] = m[k].2 := by simp [List.getD, hk]
  rw [hr] at hc
  rw [hr2]
  have h4 := h3 m[k] (List.getElem_mem hk)
  obtain ⟨ad, cd, evd, _⟩ := h4.1.slice
  have c0 := hc 0 _ rfl
  rw [Nat.mul_one, Nat.add_zero] at c0
  rw [evd] at c0 h4
  exact ⟨b, off, cap, ad, cd, e, c0, h4.1, h4.2⟩
theorem BoolsW.at {w : World} {v : Value} {l : List Bool} (h : BoolsW w v l) (k : Nat) (hk : k < l.length) : ∃ b off cap, v = .slice (some ⟨b, off, none⟩) l.length cap ∧ w.cell? ⟨b, off + k, none⟩ = some (.bool (l.getD k false)) := by
  obtain ⟨b, off, cap, e, _, _, hc⟩ := Rws.at h k (by rw [List.length_map]; exact hk)
  rw [List.length_map] at e
  have hr : (l.map fun b => [Value.bool b]).getD k [] = [.bool (l.getD k false)] := by simp [List.getD, hk]
  rw [hr] at hc
  have c0 := hc 0 _ rfl
  rw [Nat.mul_one, Nat.add_zero] at c0
  exact ⟨b, off, cap, e, c0⟩
theorem OwnS.keep {w w' : World} {base B : Nat} {s : St} {r : Option Nat} (h : OwnS w base B s) (hg : w.grownBy w' r) (hr : ∀ k, r = some k → k < base ∧ k ≠ B) : OwnS w' base B s := by
  obtain ⟨h0, vf, vn, vs, m, hb, hm, of, on, os, hap, hi1, hi2⟩ := h
  have ne : ∀ {e sz : Nat} {v : Value} {n : Nat} {xs : List Value}, w.ownsRow base e sz v n xs → v.ownBlock = none ∨ v.ownBlock ≠ r := by
    intro e sz v n xs ho
    cases hv : v.ownBlock with
    | none => exact .inl rfl
    | some g =>
      refine .inr fun q => ?_
      have := (ho.lt g hv).1
      have := (hr g q.symm).1
      omega
  refine ⟨h0, vf, vn, vs, m, blk_grown hb hg (fun q => (hr B q.symm).2 rfl), hm, of.far hg (ne of.1.2) (fun y hy => ne (of.2.1 y hy).1), on.far hg (ne on.2.2), os.far hg (ne os.2.2), hap, hi1, hi2⟩
end Go.Proofs.YtnchjlimkgbfpaaGreatDoor

namespace Go.Proofs.YtnchjlimkgbfpaaGreatDoor
open Go.RowKit Go.ChangeShapes Go.WideShapes
set_option linter.unusedVariables false
set_option maxRecDepth 20000
theorem pick_list {A : Type} (P : Nat → A → Prop) : ∀ n, (∀ i, i < n → ∃ p, P i p) → ∃ l : List A, l.length = n ∧ ∀ i p, l[i]? = some p → P i p
  | 0, _ => ⟨[], rfl, fun i p h => by simp at h⟩
  | n + 1, h => by
    obtain ⟨l, hl, hp⟩ := pick_list P n (fun i hi => h i (by omega))
    obtain ⟨p, hq⟩ := h n (by omega)
    refine ⟨l ++ [p], by simp [hl], fun i q hi => ?_⟩
    by_cases c : i < l.length
    · rw [List.getElem?_append_left c] at hi
      exact hp i q hi
    · rw [List.getElem?_append_right (by omega)] at hi
      have e : i - l.length = 0 := by
        rcases Nat.eq_zero_or_pos (i - l.length) with h | h
        · exact h
        · rw [List.getElem?_eq_none (by simp; omega)] at hi; cases hi
      rw [e] at hi
      simp at hi
      subst hi
      obtain rfl : i = n := by omega
      exact hq
theorem rows_one {A : Type} {W : World} {x : Addr} {len cap : Nat} (hl : len ≤ cap) (hm : cap ≤ maxLen) (f : A → Value) (Q : A → Prop) (h : ∀ i, i < len → ∃ p, W.cell? (x.add i) = some (f p) ∧ Q p) :
    ∃ l : List A, Rws 1 W (.slice (some x) len cap) (l.map fun p => [f p]) ∧ ∀ p ∈ l, Q p := by
  obtain ⟨l, hll, hp⟩ := pick_list (fun i p => W.cell? (x.add i) = some (f p) ∧ Q p) len h
  refine ⟨l, ⟨?_, some x, cap, by rw [List.length_map, hll], by rw [List.length_map]; omega, hm, (fun h => by cases h), ?_⟩, ?_⟩
  · intro cs hcs
    obtain ⟨p, _, rfl⟩ := List.mem_map.1 hcs
    rfl
  · intro hne
    have h0 : 0 < l.length := List.length_pos_iff.2 (by intro q; rw [q] at hne; simp at hne)
    obtain ⟨b, off, spot⟩ := x
    have hc := (hp 0 _ (List.getElem?_eq_getElem h0)).1
    have hspot : spot = none := by simpa [Addr.add] using World.cell?_spot hc
    subst hspot
    refine ⟨b, off, rfl, fun j cs hj i u hi => ?_⟩
    rw [List.getElem?_map] at hj
    cases hq : l[j]? with
    | none => rw [hq] at hj; simp at hj
    | some p =>
      rw [hq] at hj
      simp at hj
      subst hj
      match i, hi with
      | 0, hi =>
        simp at hi
        subst hi
        have := (hp j p hq).1
        simpa only [Addr.add_lit, Nat.mul_one, Nat.add_zero] using this
      | i + 1, hi => simp at hi
  · intro p hpm
    obtain ⟨i, hi⟩ := List.getElem?_of_mem hpm
    exact (hp i p hi).2
theorem cells_one {w : World} {base : Nat} {a : Addr} {x : Value} (h : w.cells? base a 1 = some [x]) : w.cell? a = some x := by
  obtain ⟨_, _, hc⟩ := World.cells?_some h
  have h0 := hc 0 (by decide)
  have e : a.add 0 = a := by cases a; simp [Addr.add]
  rw [e] at h0
  simpa using h0
end Go.Proofs.YtnchjlimkgbfpaaGreatDoor

namespace Go.Proofs.YtnchjlimkgbfpaaGreatDoor
open Go.RowKit Go.ChangeShapes Go.WideShapes
set_option linter.unusedVariables false
set_option maxRecDepth 20000
theorem Tryz.cells3 : Tryz.prog.cellsOf 3 = 1 := by kernel_rfl
theorem Tryz.cells9 : Tryz.prog.cellsOf 9 = 1 := by kernel_rfl
theorem rows_any {A : Type} {n : Nat} (hn : 0 < n) {W : World} {x : Addr} {len cap : Nat} (hl : len ≤ cap) (hm : cap ≤ maxLen) (f : A → List Value) (hf : ∀ p, (f p).length = n) (Q : A → Prop)
    (h : ∀ i, i < len → ∃ p, W.cells? 0 (x.add (i * n)) n = some (f p) ∧ Q p) :
    ∃ l : List A, l.length = len ∧ Rws n W (.slice (some x) len cap) (l.map f) ∧ ∀ p ∈ l, Q p := by
  obtain ⟨l, hll, hp⟩ := pick_list (fun i p => W.cells? 0 (x.add (i * n)) n = some (f p) ∧ Q p) len h
  refine ⟨l, hll, ⟨?_, some x, cap, by rw [List.length_map, hll], by rw [List.length_map]; omega, hm, (fun h => by cases h), ?_⟩, ?_⟩
  · intro cs hcs
    obtain ⟨p, _, rfl⟩ := List.mem_map.1 hcs
    exact hf p
  · intro hne
    have h0 : 0 < l.length := List.length_pos_iff.2 (by intro q; rw [q] at hne; simp at hne)
    obtain ⟨b, off, spot⟩ := x
    obtain ⟨_, _, hc⟩ := World.cells?_some (hp 0 _ (List.getElem?_eq_getElem h0)).1
    have hc0 := hc 0 hn
    have hs : (f (l[0]))[0]? = some ((f (l[0]))[0]'(by rw [hf]; exact hn)) := List.getElem?_eq_getElem _
    have hc1 := hc0.trans hs
    have hspot : spot = none := by simpa [Addr.add] using World.cell?_spot hc1
    subst hspot
    refine ⟨b, off, rfl, fun j cs hj i u hi => ?_⟩
    rw [List.getElem?_map] at hj
    cases hq : l[j]? with
    | none => rw [hq] at hj; simp at hj
    | some p =>
      rw [hq] at hj
      simp at hj
      subst hj
      obtain ⟨_, _, hc⟩ := World.cells?_some (hp j p hq).1
      have hi2 : i < n := by
        have := (List.getElem?_eq_some_iff.1 hi).1
        rw [hf] at this
        exact this
      have := (hc i hi2).trans hi
      simpa only [Addr.add_lit] using this
  · intro p hpm
    obtain ⟨i, hi⟩ := List.getElem?_of_mem hpm
    exact (hp i p hi).2
set_option maxRecDepth 100000 in
theorem arg_ints {H : Type} {enc : TypeId × Value → H} {W : World} {a : Option Addr} {len cap : Nat} {d : DataW H} {ps : List MemPlace}
    (h : DataW.Trod enc Tryz.prog W 0 (fun _ => true) true 29 (.slice a len cap) d ps) : ∃ l : List Int, IntsW W (.slice a len cap) l := by
  obtain ⟨fuel, hf⟩ := h
  rcases DataW.trod_slice Tryz.underlying29 hf with ⟨hcs, hx⟩ | ⟨x, len', cap', elems, rest, n, _, hcs, hx, hb, hl, hm, hlen, hel, _, _⟩
  · simp [Value.cells] at hcs
    obtain ⟨rfl, rfl, rfl⟩ := hcs
    exact ⟨[], (fun x hx => by cases hx), Rws.nil 1 W⟩
  · simp [Value.cells] at hcs
    obtain ⟨rfl, rfl, rfl⟩ := hcs
    rw [Tryz.cells3] at hel
    obtain ⟨m, hr, hq⟩ := rows_one (W := W) (x := x) hl hm (fun k : Int => Value.int .i64 k) (fun k => In64 k) (by
      intro i hi
      have e := hel i hi
      rw [Nat.mul_one] at e
      have hi2 : elems[i]? = some (elems[i]'(by omega)) := List.getElem?_eq_getElem (by omega)
      rw [hi2] at e
      cases hc : W.cells? 0 (x.add i) 1 with
      | none => rw [hc] at e; simp at e
      | some cs =>
        rw [hc] at e
        obtain ⟨b, h1, _, hb⟩ := DataW.trod_int Tryz.underlying3 e
        rw [h1] at hc
        exact ⟨b, cells_one hc, bounds_i64 hb⟩)
    exact ⟨m, hq, hr⟩
end Go.Proofs.YtnchjlimkgbfpaaGreatDoor

namespace Go.Proofs.YtnchjlimkgbfpaaGreatDoor
open Go.Joins Go.ChangeShapes Go.WideShapes Go.ChangeAt Go.RowKit
set_option linter.unusedVariables false
set_option maxRecDepth 20000
set_option linter.unusedSimpArgs false
theorem trod_struct5 {H : Type} {enc : TypeId × Value → H} {P : Program} {w : World} {base : Nat} {spare : Nat → Bool} {held : Bool} {t : TypeId} {f0 f1 f2 f3 f4 : Field} {fuel : Nat} {cs : List Value} {x : DataW H × List MemPlace} (ht : P.underlying t = some (.struct #[f0, f1, f2, f3, f4])) (h : DataW.trod enc P w base spare held fuel t cs = some x) :
    ∃ y0 y1 y2 y3 y4 n, x = (.agg [y0.1, y1.1, y2.1, y3.1, y4.1], y0.2 ++ (y1.2 ++ (y2.2 ++ (y3.2 ++ y4.2)))) ∧ cs.length = P.cellsOf t ∧ DataW.trod enc P w base spare held n f0.type ((cs.drop f0.offset).take (P.cellsOf f0.type)) = some y0 ∧
      DataW.trod enc P w base spare held n f1.type ((cs.drop f1.offset).take (P.cellsOf f1.type)) = some y1 ∧ DataW.trod enc P w base spare held n f2.type ((cs.drop f2.offset).take (P.cellsOf f2.type)) = some y2 ∧
      DataW.trod enc P w base spare held n f3.type ((cs.drop f3.offset).take (P.cellsOf f3.type)) = some y3 ∧ DataW.trod enc P w base spare held n f4.type ((cs.drop f4.offset).take (P.cellsOf f4.type)) = some y4 := by
  obtain ⟨xs, n, _, rfl, hl, hlen, hf⟩ := DataW.trod_struct ht h
  match xs, hlen with
  | [y0, y1, y2, y3, y4], _ => exact ⟨y0, y1, y2, y3, y4, n, by simp, hl, by simpa using hf 0 f0 rfl, by simpa using hf 1 f1 rfl, by simpa using hf 2 f2 rfl, by simpa using hf 3 f3 rfl, by simpa using hf 4 f4 rfl⟩
theorem Tryz.cells139 : Tryz.prog.cellsOf 139 = 5 := by kernel_rfl
theorem Tryz.cells26 : Tryz.prog.cellsOf 26 = 1 := by kernel_rfl
theorem Tryz.cells29 : Tryz.prog.cellsOf 29 = 1 := by kernel_rfl
theorem Tryz.cells28 : Tryz.prog.cellsOf 28 = 3 := by kernel_rfl
theorem Tryz.cells31 : Tryz.prog.cellsOf 31 = 4 := by kernel_rfl
theorem Tryz.bytes3 : Tryz.prog.bytesOf 3 = 8 := by kernel_rfl
theorem Tryz.bytes139 : Tryz.prog.bytesOf 139 = 56 := by kernel_rfl
theorem nil_octs (W : World) : Octs W (.slice none 0 0) [] := ⟨(fun x hx => by cases hx), .inl ⟨rfl, _, _, rfl, fun _ => rfl⟩⟩
set_option maxRecDepth 100000 in
theorem open_met {H : Type} {enc : TypeId × Value → H} {W : World} {fuel : Nat} {cs : List Value} {x : DataW H × List MemPlace} (h : DataW.trod enc Tryz.prog W 0 (fun _ => true) true fuel 139 cs = some x) :
    ∃ p : Me, cs = meRow p := by
  obtain ⟨y0, y1, y2, y3, y4, n, rfl, hl, h0, h1, h2, h3, h4⟩ := trod_struct5 Tryz.underlying139 h
  rw [Tryz.cells139] at hl
  match cs, hl with
  | [c0, c1, c2, c3, c4], _ =>
    simp only [Tryz.cells9, Tryz.cells3, List.drop_zero, List.take_succ_cons, List.take_zero, List.drop_succ_cons] at h0 h1 h2 h3 h4
    obtain ⟨a, e0, rfl, _⟩ := DataW.trod_int Tryz.underlying3 h0
    obtain ⟨b, e1, rfl, _⟩ := DataW.trod_int Tryz.underlying3 h1
    obtain ⟨c, e2, rfl, _⟩ := DataW.trod_int Tryz.underlying3 h2
    obtain ⟨s, e3, rfl, hs⟩ := DataW.trod_string Tryz.underlying9 h3
    obtain ⟨t, e4, rfl, ht⟩ := DataW.trod_string Tryz.underlying9 h4
    simp at e0 e1 e2 e3 e4
    subst e0 e1 e2 e3 e4
    exact ⟨⟨a, b, c, s, t⟩, rfl⟩
set_option maxRecDepth 100000 in
theorem open_mets {H : Type} {enc : TypeId × Value → H} {W : World} {fuel : Nat} {cs : List Value} {x : DataW H × List MemPlace} (h : DataW.trod enc Tryz.prog W 0 (fun _ => true) true fuel 26 cs = some x) (hw : ∀ n ∈ x.1.weights Tryz.prog 26, n ≤ reachBytes) :
    ∃ (v : Value) (l : List Me), cs = [v] ∧ MetsR W v l ∧ l.length * 56 ≤ 140737488351232 := by
  rcases DataW.trod_slice Tryz.underlying26 h with ⟨hcs, hx⟩ | ⟨x', len, cap, elems, rest, n, _, hcs, hx, hb, hl, hm, hlen, hel, _, _⟩
  · exact ⟨_, [], hcs, Rws.nil 5 W, by simp⟩
  · rw [Tryz.cells139] at hel
    have hwt := hw ((elems.length + rest.length) * 56) (by
      rw [hx]
      simp [DataW.weights, Tryz.underlying26, Tryz.bytes139])
    obtain ⟨l, hll, hr, hq⟩ := rows_any (n := 5) (by decide) (W := W) (x := x') hl hm meRow (fun _ => rfl) (fun p => True) (by
      intro i hi
      have e := hel i hi
      have hi2 : elems[i]? = some (elems[i]'(by omega)) := List.getElem?_eq_getElem (by omega)
      rw [hi2] at e
      cases hc : W.cells? 0 (x'.add (i * 5)) 5 with
      | none => rw [hc] at e; simp at e
      | some cs =>
        rw [hc] at e
        simp only [Option.bind_some] at e
        obtain ⟨p, rfl⟩ := open_met e
        exact ⟨p, rfl, trivial⟩)
    refine ⟨_, l, hcs, hr, ?_⟩
    unfold reachBytes at hwt
    omega
set_option maxRecDepth 100000 in
theorem open_nums {H : Type} {enc : TypeId × Value → H} {W : World} {fuel : Nat} {cs : List Value} {x : DataW H × List MemPlace} (h : DataW.trod enc Tryz.prog W 0 (fun _ => true) true fuel 29 cs = some x) (hw : ∀ n ∈ x.1.weights Tryz.prog 29, n ≤ reachBytes) :
    ∃ (v : Value) (l : List Int), cs = [v] ∧ IntsR W v l ∧ l.length * 8 ≤ 140737488351232 ∧ ∀ i ∈ l, In64 i := by
  rcases DataW.trod_slice Tryz.underlying29 h with ⟨hcs, hx⟩ | ⟨x', len, cap, elems, rest, n, _, hcs, hx, hb, hl, hm, hlen, hel, _, _⟩
  · exact ⟨_, [], hcs, Rws.nil 1 W, by simp, by simp⟩
  · rw [Tryz.cells3] at hel
    have hwt := hw ((elems.length + rest.length) * 8) (by
      rw [hx]
      simp [DataW.weights, Tryz.underlying29, Tryz.bytes3])
    obtain ⟨l, hll, hr, hq⟩ := rows_any (n := 1) (by decide) (W := W) (x := x') hl hm irow (fun _ => rfl) (fun p => In64 p) (by
      intro i hi
      have e := hel i hi
      have hi2 : elems[i]? = some (elems[i]'(by omega)) := List.getElem?_eq_getElem (by omega)
      rw [hi2] at e
      cases hc : W.cells? 0 (x'.add (i * 1)) 1 with
      | none => rw [hc] at e; simp at e
      | some cs =>
        rw [hc] at e
        simp only [Option.bind_some] at e
        obtain ⟨a, e0, _, hwf⟩ := DataW.trod_int Tryz.underlying3 e
        subst e0
        exact ⟨a, rfl, bounds_i64 hwf⟩)
    refine ⟨_, l, hcs, hr, ?_, hq⟩
    unfold reachBytes at hwt
    omega
set_option maxRecDepth 100000 in
theorem arg_ver {H : Type} {enc : TypeId × Value → H} {W : World} {base : Nat} {v : Value} {d : DataW H} {p : List MemPlace} (hv : Value.okWide Tryz.prog W .any base 28 v) (h : DataW.Trod enc Tryz.prog W 0 (fun _ => true) true 28 v d p) (hw : ∀ n ∈ d.weights Tryz.prog 28, n ≤ reachBytes) :
    ∃ (a : Option Addr) (n c : Nat) (l : List Me) (s x : Int), v = .agg #[.slice a n c, .int .i64 s, .int .i64 x] ∧ MetsR W (.slice a n c) l ∧ l.length ≤ 4000000000000 := by
  obtain ⟨cs, rfl, hsz⟩ := okWide_struct Tryz.underlying28 hv
  obtain ⟨c0, c1, c2, rfl⟩ := array3 (hsz.trans Tryz.cells28)
  obtain ⟨fuel, hf⟩ := h
  obtain ⟨y0, y1, y2, n, hx, hl, h0, h1, h2⟩ := Go.Deep.trod_struct3 Tryz.underlying28 hf
  simp only [Prod.mk.injEq] at hx
  obtain ⟨rfl, rfl⟩ := hx
  simp only [Tryz.cells26, Tryz.cells3, Value.cells, List.drop_zero, List.take_succ_cons, List.take_zero, List.drop_succ_cons] at h0 h1 h2
  have hwE : ∀ q ∈ y0.1.weights Tryz.prog 26, q ≤ reachBytes := fun q hq => hw q (by
    simp [DataW.weights, Tryz.underlying28, DataW.weightsEach]
    exact .inl hq)
  obtain ⟨v0, l, e0, hE, hEb⟩ := open_mets h0 hwE
  obtain ⟨s, e1, _, _⟩ := DataW.trod_int Tryz.underlying3 h1
  obtain ⟨x, e2, _, _⟩ := DataW.trod_int Tryz.underlying3 h2
  simp at e0 e1 e2
  obtain ⟨a, c, rfl, _, _⟩ := hE.len
  subst e0 e1 e2
  exact ⟨a, _, c, l, s, x, rfl, hE, by omega⟩
set_option maxRecDepth 100000 in
theorem arg_edt {H : Type} {enc : TypeId × Value → H} {W : World} {base : Nat} {v : Value} {d : DataW H} {p : List MemPlace} (hv : Value.okWide Tryz.prog W .any base 31 v) (h : DataW.Trod enc Tryz.prog W 0 (fun _ => true) true 31 v d p) (hw : ∀ n ∈ d.weights Tryz.prog 31, n ≤ reachBytes) :
    ∃ (da : Option Addr) (dn dc : Nat) (is : List Int) (a : Option Addr) (n c : Nat) (l : List Me) (s x : Int), v = .agg #[.slice da dn dc, .slice a n c, .int .i64 s, .int .i64 x] ∧ IntsR W (.slice da dn dc) is ∧ (∀ i ∈ is, In64 i) ∧ is.length ≤ 17592186044416 ∧ MetsR W (.slice a n c) l ∧ l.length ≤ 4000000000000 := by
  obtain ⟨cs, rfl, hsz⟩ := okWide_struct Tryz.underlying31 hv
  obtain ⟨c0, c1, c2, c3, rfl⟩ := array4 (hsz.trans Tryz.cells31)
  obtain ⟨fuel, hf⟩ := h
  obtain ⟨y0, y1, y2, y3, n, hx, hl, h0, h1, h2, h3⟩ := trod_struct4 Tryz.underlying31 hf
  simp only [Prod.mk.injEq] at hx
  obtain ⟨rfl, rfl⟩ := hx
  simp only [Tryz.cells26, Tryz.cells29, Tryz.cells3, Value.cells, List.drop_zero, List.take_succ_cons, List.take_zero, List.drop_succ_cons] at h0 h1 h2 h3
  have hwD : ∀ q ∈ y0.1.weights Tryz.prog 29, q ≤ reachBytes := fun q hq => hw q (by
    simp [DataW.weights, Tryz.underlying31, DataW.weightsEach]
    exact .inl hq)
  have hwE : ∀ q ∈ y1.1.weights Tryz.prog 26, q ≤ reachBytes := fun q hq => hw q (by
    simp [DataW.weights, Tryz.underlying31, DataW.weightsEach]
    exact .inr (.inl hq))
  obtain ⟨u0, is, d0, hD, hDb, hDi⟩ := open_nums h0 hwD
  obtain ⟨v0, l, e0, hE, hEb⟩ := open_mets h1 hwE
  obtain ⟨s, e1, _, _⟩ := DataW.trod_int Tryz.underlying3 h2
  obtain ⟨x, e2, _, _⟩ := DataW.trod_int Tryz.underlying3 h3
  simp at d0 e0 e1 e2
  obtain ⟨da, dc, rfl, _, _⟩ := hD.len
  obtain ⟨a, c, rfl, _, _⟩ := hE.len
  subst d0 e0 e1 e2
  exact ⟨da, _, dc, is, a, _, c, l, s, x, rfl, hD, hDi, by omega, hE, by omega⟩
end Go.Proofs.YtnchjlimkgbfpaaGreatDoor
