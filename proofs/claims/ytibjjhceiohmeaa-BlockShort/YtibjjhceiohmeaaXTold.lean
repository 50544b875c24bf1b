/- The document's reader, one ending a call; what seven calls say of one version. -/
import Derived.Test.YtibjjhceiohmeaaGTake
import Derived.Test.YtibjjhceiohmeaaXEnc3
namespace Go.Proofs.Ytibjjhceiohmeaa
open Go.RowKit SumPlain
set_option linter.unusedVariables false

/-- The reader behind a number. -/
def NumS (X : List Int) (most : Int) (j : Nat) (y : Int) (n j' : Nat) (y' : Int) : Prop :=
  (n : Int) ≤ most ∧ ((y' = 0 ∧ y = 0 ∧ numQ most 21 (X.drop j) = .ok ((n : Int), X.drop j')) ∨ (y' ≠ 0 ∧ (y ≠ 0 ∨ ∃ z, numQ most 21 (X.drop j) = .error z)))
/-- The reader behind octets. -/
def TakeS (X : List Int) (m j : Nat) (y : Int) (l : List Int) (j' : Nat) (y' : Int) : Prop :=
  (y' = 0 ∧ y = 0 ∧ j + m ≤ X.length ∧ j' = j + m ∧ l = (X.drop j).take m) ∨ (y' ≠ 0 ∧ l = [] ∧ (y ≠ 0 ∨ X.length - j < m))

theorem refNum_s (N : Nat) (X : List Int) (a : Option Addr) (c k : Nat) (y most : Int) (w0 w : World) (h : RQ w0 w N X a c k y) (h0 : 0 ≤ most) (hm : most ≤ 1099511627776) :
    Calls Try.prog 49 #[.pointer (some ⟨N, 0, none⟩), .int .u64 most, .int .i64 21] w fun e w' => ∃ (n j : Nat) (y' : Int), e = .returned (.int .i64 (n : Int)) ∧ Hid (NumS X most k y n j y') ∧ Hid (RQ w0 w' N X a c j y') ∧ Hid (w.grownBy w' (some N)) := by
  by_cases hy : y = 0
  · subst hy
    refine (refNum_any N X a c k most 21 w0 w h hm).mono ?_
    rintro e w' (⟨n, j, hq, hn, rfl, R, G⟩ | ⟨z, hq, rfl, R, G⟩)
    · obtain ⟨n, rfl⟩ : ∃ m : Nat, n = (m : Int) := ⟨n.toNat, by omega⟩
      exact ⟨n, j, 0, rfl, ⟨hn.2, .inl ⟨rfl, rfl, hq⟩⟩, R, G⟩
    · exact ⟨0, k, z, rfl, ⟨h0, .inr ⟨numQ_err (by decide) hq, .inr ⟨z, hq⟩⟩⟩, R, G⟩
  · refine (refNum_err N X a c k y most 21 w0 w h hy).mono ?_
    rintro e w' ⟨rfl, rfl⟩
    exact ⟨0, k, y, rfl, ⟨h0, .inr ⟨hy, .inl hy⟩⟩, h, grown_refl _ _⟩

theorem refTake_s (N : Nat) (X : List Int) (a : Option Addr) (c k m : Nat) (y : Int) (w0 w : World) (h : RQ w0 w N X a c k y) (hm : m ≤ 65536) :
    Calls Try.prog 50 #[.pointer (some ⟨N, 0, none⟩), .int .i64 (m : Int)] w fun e w' => ∃ (a' : Option Addr) (n' c' : Nat) (l : List Int) (j : Nat) (y' : Int), e = .returned (.slice a' n' c') ∧ Hid (TakeS X m k y l j y') ∧ Hid (OwnB w' w.heap.size (.slice a' n' c') l) ∧ Hid (RQ w0 w' N X a c j y') ∧ Hid (w.grownBy w' (some N)) := by
  by_cases hy : y = 0
  · subst hy
    by_cases hl : X.length - k < m
    · refine (refTake_short N X a c k m w0 w h hl hm).mono ?_
      rintro e w' ⟨rfl, R, G⟩
      exact ⟨none, 0, 0, [], k, 8, rfl, .inr ⟨by decide, rfl, .inr hl⟩, OwnB.nil _ _, R, G⟩
    · have hk := h.le
      refine (refTake_ok N X a c k m w0 w h (by omega) hm).mono ?_
      rintro e w' ⟨a', c', rfl, O, R, G⟩
      exact ⟨a', m, c', _, k + m, 0, rfl, .inl ⟨rfl, rfl, by omega, rfl, rfl⟩, O, R, G⟩
  · refine (refTake_err N X a c k y (m : Int) w0 w h hy).mono ?_
    rintro e w' ⟨rfl, rfl⟩
    exact ⟨none, 0, 0, [], k, y, rfl, .inr ⟨hy, rfl, .inl hy⟩, OwnB.nil _ _, h, grown_refl _ _⟩

theorem numQ_len {most code : Int} {l r : List Int} {n : Int} (h : numQ most code l = .ok (n, r)) : r.length ≤ l.length := by
  unfold numQ at h
  split at h
  · split at h
    · cases h
    · simp only [Except.ok.injEq, Prod.mk.injEq] at h
      rw [← h.2, List.length_drop]
      omega
  · cases h

/-- Seven calls of the reader. -/
structure Seven (X : List Int) (j0 n k s v : Nat) (d r u : List Int) (j7 : Nat) (y7 : Int) : Prop where
  ex : ∃ (j1 j2 j3 j4 j5 j6 : Nat) (y1 y2 y3 y4 y5 y6 : Int), NumS X 65536 j0 0 n j1 y1 ∧ NumS X 65536 j1 y1 k j2 y2 ∧ NumS X 1099511627776 j2 y2 s j3 y3 ∧ NumS X 65536 j3 y3 v j4 y4 ∧ TakeS X 1 j4 y4 d j5 y5 ∧ TakeS X k j5 y5 r j6 y6 ∧ TakeS X v j6 y6 u j7 y7 ∧ j0 ≤ X.length ∧ j1 ≤ X.length ∧ j2 ≤ X.length ∧ j3 ≤ X.length ∧ j4 ≤ X.length

theorem Seven.bad {X prev : List Int} {j0 n k s v : Nat} {d r u : List Int} {j7 : Nat} {y7 : Int} (h : Seven X j0 n k s v d r u j7 y7) (hy : y7 ≠ 0) : entP prev (X.drop j0) = none := by
  obtain ⟨j1, j2, j3, j4, j5, j6, y1, y2, y3, y4, y5, y6, N1, N2, N3, N4, T1, T2, T3, l0, l1, l2, l3, l4⟩ := h
  unfold entP
  rcases N1.2 with ⟨rfl, _, q1⟩ | ⟨_, e | ⟨z, q1⟩⟩
  · rw [q1]
    simp only
    rcases N2.2 with ⟨rfl, _, q2⟩ | ⟨_, e | ⟨z, q2⟩⟩
    · rw [q2]
      simp only
      rcases N3.2 with ⟨rfl, _, q3⟩ | ⟨_, e | ⟨z, q3⟩⟩
      · rw [q3]
        simp only
        rcases N4.2 with ⟨rfl, _, q4⟩ | ⟨_, e | ⟨z, q4⟩⟩
        · rw [q4]
          simp only
          rcases T1 with ⟨rfl, _, t1, rfl, _⟩ | ⟨_, _, e | t1⟩
          · rw [drop_at X j4 (by omega)]
            simp only
            rw [if_pos]
            rw [List.length_drop]
            rcases T2 with ⟨rfl, _, t2, rfl, _⟩ | ⟨_, _, e | t2⟩
            · rcases T3 with ⟨rfl, _, t3, rfl, _⟩ | ⟨_, _, e | t3⟩
              · exact absurd rfl hy
              · exact absurd rfl e
              · right; left; omega
            · exact absurd rfl e
            · left; omega
          · exact absurd rfl e
          · rw [List.drop_of_length_le (by omega)]
        · exact absurd rfl e
        · rw [q4]
      · exact absurd rfl e
      · rw [q3]
    · exact absurd rfl e
    · rw [q2]
  · exact absurd rfl e
  · rw [q1]

theorem Seven.fine {X : List Int} {j0 n k s v : Nat} {d r u : List Int} {j7 : Nat} (h : Seven X j0 n k s v d r u j7 0) (prev : List Int) : ∃ x, d = [x] ∧ j0 < j7 ∧ j7 ≤ X.length ∧ (s : Int) ≤ 1099511627776 ∧ n ≤ 65536 ∧
    entP prev (X.drop j0) = if prev.length < n then none else some (⟨strOfNums (prev.take n ++ r), (s : Int), x, strOfNums u⟩, prev.take n ++ r, X.drop j7) := by
  obtain ⟨j1, j2, j3, j4, j5, j6, y1, y2, y3, y4, y5, y6, N1, N2, N3, N4, T1, T2, T3, l0, l1, l2, l3, l4⟩ := h
  rcases T3 with ⟨_, rfl, t3, rfl, rfl⟩ | ⟨e, _⟩
  · rcases T2 with ⟨_, rfl, t2, rfl, rfl⟩ | ⟨e, _⟩
    · rcases T1 with ⟨_, rfl, t1, rfl, rfl⟩ | ⟨e, _⟩
      · obtain ⟨m4, ⟨_, rfl, q4⟩ | ⟨e, _⟩⟩ := N4
        · obtain ⟨m3, ⟨_, rfl, q3⟩ | ⟨e, _⟩⟩ := N3
          · obtain ⟨m2, ⟨_, rfl, q2⟩ | ⟨e, _⟩⟩ := N2
            · obtain ⟨m1, ⟨_, _, q1⟩ | ⟨e, _⟩⟩ := N1
              · have g1 := numQ_len q1
                have g2 := numQ_len q2
                have g3 := numQ_len q3
                have g4 := numQ_len q4
                simp only [List.length_drop] at g1 g2 g3 g4
                have hd := drop_at X j4 (by omega)
                refine ⟨X.getD j4 0, ?_, by omega, by omega, m3, by omega, ?_⟩
                · rw [hd]
                  simp
                · unfold entP
                  rw [q1]
                  simp only
                  rw [q2]
                  simp only
                  rw [q3]
                  simp only
                  rw [q4]
                  simp only
                  rw [hd]
                  simp only
                  by_cases hp : prev.length < n
                  · rw [if_pos (by right; right; omega), if_pos hp]
                  · rw [if_neg (by rw [List.length_drop]; omega), if_neg hp]
                    simp only [Int.toNat_natCast, List.drop_drop]
              · exact absurd rfl e
            · exact absurd rfl e
          · exact absurd rfl e
        · exact absurd rfl e
      · exact absurd rfl e
    · exact absurd rfl e
  · exact absurd rfl e

/-- What is told, round by round. -/
theorem toldP_stop {f : Nat} {key : List Int} {out : List En} {l : List Int} (hf : 0 < f) (h : l = [] ∨ 64 < out.length) : toldP f key out l = out := by
  cases f with
  | zero => omega
  | succ f => unfold toldP; rw [if_pos h]
theorem toldP_bad {f : Nat} {key : List Int} {out : List En} {l : List Int} (hf : 0 < f) (h : ¬ (l = [] ∨ 64 < out.length)) (he : entP key l = none) : toldP f key out l = [] := by
  cases f with
  | zero => omega
  | succ f => unfold toldP; rw [if_neg h, he]
theorem toldP_step {f : Nat} {key key' : List Int} {out : List En} {l r : List Int} {x : En} (h : ¬ (l = [] ∨ 64 < out.length)) (he : entP key l = some (x, key', r)) : toldP (f + 1) key out l = toldP f key' (out ++ [x]) r := by
  rw [toldP, if_neg h, he]
end Go.Proofs.Ytibjjhceiohmeaa
