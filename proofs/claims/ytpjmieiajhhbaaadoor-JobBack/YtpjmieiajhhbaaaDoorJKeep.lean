/- What follows may be, and is the same job. -/
import Derived.Test.YtpjmieiajhhbaaaDoorJIn
import Derived.Test.YtpjmieiajhhbaaaDoorJFail
namespace Go.Proofs.YtpjmieiajhhbaaaDoor
open Go.RowKit
set_option linter.unusedVariables false
set_option linter.unusedSimpArgs false

theorem jb_out {j : Jb} (H : JbIn j) : chkJ j = 0 := by
  have ha : chkA j = true := by
    unfold chkA
    simp only [Bool.and_eq_true, Bool.not_eq_true', decide_eq_false_iff_not]
    exact ⟨inB_iff.2 H.id, by have := H.na; omega, by have := H.pa; omega, inB_iff.2 H.st, inB_iff.2 H.du, inB_iff.2 H.tr⟩
  have hr : chkR j = true := by
    unfold chkR
    simp only [Bool.or_eq_true, Bool.and_eq_true, Bool.not_eq_true', decide_eq_true_eq, decide_eq_false_iff_not, beq_iff_eq, beq_eq_false_iff_ne]
    rcases H.ru with e | ⟨r1, r2, r3⟩
    · exact .inl e
    · exact .inr ⟨r1, r2, by omega⟩
  have hl : chkL j = true := by
    by_cases hs : j.st = 2
    · obtain ⟨w, k, u, d⟩ := H.held hs
      have hh : chkH j = true := by
        unfold chkH
        simp only [Bool.and_eq_true, beq_iff_eq]
        exact ⟨inB_iff.2 w, inB_iff.2 k, inB_iff.2 u, d⟩
      unfold chkL
      rw [hh, show (j.st == 2) = true by simpa using hs]
      rfl
    · obtain ⟨w, k, u⟩ := H.free hs
      unfold chkL
      rw [show (j.st == 2) = false by simpa using hs, w, k, u]
      rfl
  unfold chkJ
  rw [ha, hr, hl]
  rfl

theorem i11 : (1 : Int) ≤ 1 := by decide
theorem i12 : (1 : Int) ≤ 2 := by decide
theorem i13 : (1 : Int) ≤ 3 := by decide
theorem i23 : (2 : Int) ≤ 3 := by decide
theorem i33 : (3 : Int) ≤ 3 := by decide
theorem i00 : (0 : Int) ≤ 0 := by decide
theorem i0m : (0 : Int) ≤ 32503680000 := by decide

/-! ### a lease -/
theorem leaseP_good {j : Jb} {wk tk un : Int} (h : (leaseP j wk tk un).2 = 0) : chkJ j = 0 ∧ j.st = 1 ∧ (1 ≤ wk ∧ wk ≤ 2147483648) ∧ (1 ≤ tk ∧ tk ≤ 1099511627776) ∧ (0 ≤ un ∧ un ≤ 32503680000) ∧ (leaseP j wk tk un).1 = { j with st := 2, du := 0, wk := wk, tk := tk, un := un } := by
  unfold leaseP at h ⊢
  by_cases c1 : chkJ j ≠ 0
  · rw [if_pos c1] at h; cases h
  rw [if_neg c1] at h ⊢
  by_cases c2 : j.st ≠ 1
  · rw [if_pos c2] at h; cases h
  rw [if_neg c2] at h ⊢
  by_cases c3 : (inB wk 1 2147483648 && (inB tk 1 1099511627776 && inB un 0 32503680000)) = true
  · rw [if_pos c3]
    simp only [Bool.and_eq_true] at c3
    exact ⟨Classical.not_not.1 c1, Classical.not_not.1 c2, inB_iff.1 c3.1, inB_iff.1 c3.2.1, inB_iff.1 c3.2.2, rfl⟩
  · rw [if_neg c3] at h; cases h
theorem lease_keeps {j : Jb} {wk tk un : Int} (h : (leaseP j wk tk un).2 = 0) : chkJ (leaseP j wk tk un).1 = 0 ∧ (leaseP j wk tk un).1.id = j.id ∧ (leaseP j wk tk un).1.na = j.na ∧ (leaseP j wk tk un).1.pa = j.pa ∧ (leaseP j wk tk un).1.ru = j.ru ∧ (leaseP j wk tk un).1.tr = j.tr := by
  obtain ⟨h0, h1, h2, h3, h4, e⟩ := leaseP_good h
  rw [e]
  have H := jb_in h0
  refine ⟨jb_out ⟨H.id, H.na, H.pa, ⟨i12, i23⟩, ⟨i00, i0m⟩, H.tr, ?_, fun _ => ⟨h2, h3, h4, rfl⟩, fun q => absurd rfl q⟩, rfl, rfl, rfl, rfl, rfl⟩
  rcases H.ru with e | ⟨r1, r2, r3⟩
  · exact .inl e
  · exact .inr ⟨r1, by show (2 : Int) ≠ 3; decide, r3⟩

/-! ### again -/
theorem nextP_true {r : Ru} {t : Int} (h : (nextP r t).2.1 = true) : NextR r t (nextP r t).1 true 0 ∧ NextQ r t (nextP r t).1 true := by
  have e : ∃ q : Int × Bool × Int, NextR r t q.1 q.2.1 q.2.2 := by
    by_cases c : ∃ q : Int × Bool × Int, NextR r t q.1 q.2.1 q.2.2
    · exact c
    · have z : nextP r t = (0, false, 0) := dif_neg c
      rw [z] at h
      cases h
  obtain ⟨⟨a, is, c⟩, hq⟩ := e
  have z := nextP_is hq
  rw [z] at h ⊢
  simp only at h hq ⊢
  subst h
  rcases hq with ⟨-, -, b, -⟩ | ⟨-, -, -, b, -⟩ | ⟨h0, h1, h2, h3, h4⟩
  · cases b
  · cases b
  · subst h3
    exact ⟨.inr (.inr ⟨h0, h1, h2, rfl, h4⟩), h4⟩
theorem next_in {r : Ru} {t : Int} (h : (nextP r t).2.1 = true) : 0 ≤ (nextP r t).1 ∧ (nextP r t).1 ≤ 32503680000 := by
  rcases (nextP_true h).2 with ⟨-, -, a, b, -⟩ | ⟨a, -⟩
  · exact ⟨a, by omega⟩
  · cases a
/-- A job that waits, made of one that may be. -/
theorem free_in {j : Jb} (H : JbIn j) {t d : Int} (ht : 0 ≤ t ∧ t ≤ 16) (hd : 0 ≤ d ∧ d ≤ 32503680000) : JbIn (freeP { j with tr := t } 1 d) := by
  refine ⟨H.id, H.na, H.pa, ⟨i11, i13⟩, hd, ht, ?_, fun q => ?_, fun _ => ⟨rfl, rfl, rfl⟩⟩
  · rcases H.ru with e | ⟨r1, r2, r3⟩
    · exact .inl e
    · exact .inr ⟨r1, by show (1 : Int) ≠ 3; decide, r3⟩
  · exact absurd (show (1 : Int) = 2 from q) (by decide)
theorem againP_true {j : Jb} {now : Int} (h : (againP j now).2 = true) : j.ru ≠ [] ∧ (nextP (parseR j.ru).1 now).2.1 = true ∧ (againP j now).1 = freeP { j with tr := 0 } 1 (nextP (parseR j.ru).1 now).1 := by
  unfold againP at h ⊢
  by_cases c1 : j.ru = []
  · rw [if_pos c1] at h; cases h
  rw [if_neg c1] at h ⊢
  by_cases c2 : (nextP (parseR j.ru).1 now).2.1 = true
  · rw [if_pos c2]
    exact ⟨c1, c2, rfl⟩
  · rw [if_neg c2] at h; cases h

/-! ### a finish -/
theorem finish_keeps {j : Jb} {now : Int} (h : (finishP j now).2.2 = 0) : ((finishP j now).2.1 = true → chkJ (finishP j now).1 = 0 ∧ (finishP j now).1.id = j.id ∧ (finishP j now).1.st = 1 ∧ (finishP j now).1.tr = 0) ∧ ((finishP j now).2.1 = false → (finishP j now).1 = jb0 ∧ j.id ≠ 0) := by
  unfold finishP at h ⊢
  by_cases c1 : chkJ j ≠ 0
  · rw [if_pos c1] at h; cases h
  rw [if_neg c1] at h ⊢
  by_cases c2 : j.st ≠ 2
  · rw [if_pos c2] at h; cases h
  rw [if_neg c2] at h ⊢
  by_cases c3 : inB now 0 32503679999 = true
  case neg => rw [if_neg c3] at h; cases h
  rw [if_pos c3] at h ⊢
  have H := jb_in (Classical.not_not.1 c1)
  by_cases c4 : (againP j now).2 = true
  · rw [if_pos c4]
    obtain ⟨a, b, e⟩ := againP_true c4
    refine ⟨fun _ => ?_, fun q => by cases q⟩
    show chkJ (againP j now).1 = 0 ∧ (againP j now).1.id = j.id ∧ (againP j now).1.st = 1 ∧ (againP j now).1.tr = 0
    rw [e]
    exact ⟨jb_out (free_in H ⟨by decide, by decide⟩ (next_in b)), rfl, rfl, rfl⟩
  · rw [if_neg c4]
    exact ⟨fun q => (by cases q), fun _ => ⟨rfl, by have := H.id; omega⟩⟩

/-! ### a failure -/
theorem due_in {b c n now k : Int} (h : (dueP b c n now k).2 = 0) : 0 ≤ (dueP b c n now k).1 ∧ (dueP b c n now k).1 ≤ 32503680000 := by
  unfold dueP at h ⊢
  by_cases q : (LimOk b c n ∧ 0 ≤ k) ∧ 0 ≤ now ∧ now + delN b c k.toNat < 32503680000
  · rw [if_pos q]
    have := (delN_le q.1.1 k.toNat).1
    have := q.1.1.1
    have := q.2
    show 0 ≤ now + delN b c k.toNat ∧ now + delN b c k.toNat ≤ 32503680000
    omega
  · rw [if_neg q] at h; cases h
theorem failB_keeps {j : Jb} (H : JbIn j) {t b c n now : Int} (ht : 0 ≤ t ∧ t ≤ 16) (hn : 0 ≤ now ∧ now ≤ 32503679999) : JbIn (failB { j with tr := t } b c n now).1 ∧ (failB { j with tr := t } b c n now).1.id = j.id ∧ (failB { j with tr := t } b c n now).1.na = j.na ∧ (failB { j with tr := t } b c n now).1.pa = j.pa ∧ (failB { j with tr := t } b c n now).1.st ≠ 2 ∧ (failB { j with tr := t } b c n now).2 = 0 := by
  unfold failB
  by_cases c1 : ({ j with tr := t } : Jb).tr < n ∧ (dueP b c n now (({ j with tr := t } : Jb).tr - 1)).2 = 0
  · rw [if_pos c1]
    exact ⟨free_in H ht (due_in c1.2), rfl, rfl, rfl, by show (1 : Int) ≠ 2; decide, rfl⟩
  rw [if_neg c1]
  by_cases c2 : (againP { j with tr := t } now).2 = true
  · rw [if_pos c2]
    obtain ⟨a, d, e⟩ := againP_true c2
    show JbIn (againP { j with tr := t } now).1 ∧ (againP { j with tr := t } now).1.id = j.id ∧ (againP { j with tr := t } now).1.na = j.na ∧ (againP { j with tr := t } now).1.pa = j.pa ∧ (againP { j with tr := t } now).1.st ≠ 2 ∧ (0 : Int) = 0
    rw [e]
    exact ⟨free_in H ⟨by decide, by decide⟩ (next_in d), rfl, rfl, rfl, by show (1 : Int) ≠ 2; decide, rfl⟩
  · rw [if_neg c2]
    refine ⟨⟨H.id, H.na, H.pa, ⟨i13, i33⟩, ⟨hn.1, by show now ≤ 32503680000; omega⟩, ht, .inl rfl, fun q => absurd (show (3 : Int) = 2 from q) (by decide), fun _ => ⟨rfl, rfl, rfl⟩⟩, rfl, rfl, rfl, by show (3 : Int) ≠ 2; decide, rfl⟩
theorem upTr_in {t : Int} (h : 0 ≤ t ∧ t ≤ 16) : 1 ≤ upTr t ∧ upTr t ≤ 16 := by
  unfold upTr
  split <;> omega
theorem failP_good {j : Jb} {b c n now : Int} (h : (failP j b c n now).2 = 0) : chkJ j = 0 ∧ LimOk b c n ∧ j.st = 2 ∧ (0 ≤ now ∧ now ≤ 32503679999) ∧ failP j b c n now = failB { j with tr := upTr j.tr } b c n now := by
  unfold failP at h ⊢
  by_cases c1 : chkJ j ≠ 0
  · rw [if_pos c1] at h; cases h
  rw [if_neg c1] at h ⊢
  by_cases c2 : chkP b c n ≠ 0
  · rw [if_pos c2] at h; cases h
  rw [if_neg c2] at h ⊢
  by_cases c3 : j.st ≠ 2
  · rw [if_pos c3] at h; cases h
  rw [if_neg c3] at h ⊢
  by_cases c4 : inB now 0 32503679999 = true
  · rw [if_pos c4]
    refine ⟨Classical.not_not.1 c1, ?_, Classical.not_not.1 c3, inB_iff.1 c4, rfl⟩
    unfold chkP at c2
    by_cases q : LimOk b c n
    · exact q
    · rw [if_neg q] at c2
      exact absurd (by decide) c2
  · rw [if_neg c4] at h; cases h
theorem fail_keeps {j : Jb} {b c n now : Int} (h : (failP j b c n now).2 = 0) : chkJ (failP j b c n now).1 = 0 ∧ (failP j b c n now).1.id = j.id ∧ (failP j b c n now).1.na = j.na ∧ (failP j b c n now).1.pa = j.pa ∧ (failP j b c n now).1.st ≠ 2 := by
  obtain ⟨h0, h1, h2, h3, e⟩ := failP_good h
  rw [e]
  have H := jb_in h0
  obtain ⟨a1, a2, a3, a4, a5, -⟩ := failB_keeps (b := b) (c := c) (n := n) H (show 0 ≤ upTr j.tr ∧ upTr j.tr ≤ 16 by have := upTr_in H.tr; omega) h3
  exact ⟨jb_out a1, a2, a3, a4, a5⟩

/-! ### the example -/
theorem alive_fail : failP ⟨1, [], [], [], 2, 0, 0, 1, 1, 20⟩ 3 9 4 10 = (⟨1, [], [], [], 1, 13, 1, 0, 0, 0⟩, 0) := by
  have h : chkJ ⟨1, [], [], [], 2, 0, 0, 1, 1, 20⟩ = 0 := by decide +kernel
  unfold failP
  rw [if_neg (by rw [h]; decide), if_neg (by decide), if_neg (by decide), if_pos (by decide)]
  unfold failB
  rw [if_pos (by decide)]
  rfl
end Go.Proofs.YtpjmieiajhhbaaaDoor
