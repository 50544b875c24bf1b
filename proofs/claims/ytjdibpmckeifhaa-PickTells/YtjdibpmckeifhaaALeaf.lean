/- The program's leaves of layer 11: which of two tables comes first, may a table be, may one stand behind another. -/
import Derived.Test.YtjdibpmckeifhaaEChk
namespace Go.Proofs.Ytjdibpmckeifhaa
open Go.RowKit
set_option linter.unusedVariables false
set_option linter.unusedSimpArgs false

theorem hid {p : Prop} (h : p) : Hid p := h
def cmpI (a b : Int) : Int := if a < b then -1 else if b < a then 1 else 0
def cmpS (s t : ByteArray) : Int := if Op.bytesLess s.toList t.toList = true then -1 else if Op.bytesLess t.toList s.toList = true then 1 else 0
def meBox (m : Me) : Obj := .cells #[.int .i64 m.id, .int .i64 m.lvl, .int .i64 m.cnt, .string m.low, .string m.high] 70

theorem cmpInt_any (a b : Int) (w : World) : Calls Try.prog 53 #[.int .i64 a, .int .i64 b] w fun e w' => e = .returned (.int .i64 (cmpI a b)) ∧ w' = w := by
  have nan : ∀ n w, Calls Try.prog 55 #[.int .i64 n] w fun e w' => e = .returned (.bool false) ∧ w' = w := by
    intro n w
    go_enter Try.func55, Try.ntmps55
    go_wp2
    go_ret
    exact ⟨by simp, rfl⟩
  unfold cmpI
  go_enter Try.func53, Try.ntmps53
  go_wp2_with (go_at_call 55; refine (nan _ _).mono ?_; rintro e w1 ⟨rfl, rfl⟩)
  all_goals
    go_ret
    refine ⟨?_, rfl⟩
    simp_all
    try omega

theorem cmpStr_any (s t : ByteArray) (w : World) : Calls Try.prog 54 #[.string s, .string t] w fun e w' => e = .returned (.int .i64 (cmpS s t)) ∧ w' = w := by
  have nan : ∀ n w, Calls Try.prog 56 #[.string n] w fun e w' => e = .returned (.bool false) ∧ w' = w := by
    intro n w
    go_enter Try.func56, Try.ntmps56
    go_wp2
    go_ret
    exact ⟨by simp, rfl⟩
  unfold cmpS
  go_enter Try.func54, Try.ntmps54
  go_wp2_with (go_at_call 56; refine (nan _ _).mono ?_; rintro e w1 ⟨rfl, rfl⟩)
  all_goals
    go_ret
    refine ⟨?_, rfl⟩
    try simp_all
    try (exact absurd (bl_totalM _ _ ‹Op.bytesLess s.toList t.toList = false› ‹Op.bytesLess t.toList s.toList = false›) ‹¬ s.toList = t.toList›)

/-- What order answers. -/
def ordM (a b : Me) : Int := if cmpI a.lvl b.lvl = 0 then (if a.lvl = 0 then cmpI b.id a.id else cmpS a.low b.low) else cmpI a.lvl b.lvl

set_option maxRecDepth 100000 in
theorem order_any (a b : Me) (w : World) :
    Calls Try.prog 51 #[meV a, meV b] w fun e w' => e = .returned (.int .i64 (ordM a b)) ∧ w' = (w.alloc (meBox a)).alloc (meBox b) := by
  obtain ⟨ai, al, ac, alo, ahi⟩ := a
  obtain ⟨bi, bl, bc, blo, bhi⟩ := b
  unfold meV ordM
  simp only
  generalize h1 : cmpI al bl = c1
  generalize h2 : cmpI bi ai = c2
  generalize h3 : cmpS alo blo = c3
  have k1 : ∀ w, Calls Try.prog 53 #[.int .i64 al, .int .i64 bl] w fun e w' => e = .returned (.int .i64 c1) ∧ w' = w := fun w => h1 ▸ cmpInt_any _ _ _
  have k2 : ∀ w, Calls Try.prog 53 #[.int .i64 bi, .int .i64 ai] w fun e w' => e = .returned (.int .i64 c2) ∧ w' = w := fun w => h2 ▸ cmpInt_any _ _ _
  have k3 : ∀ w, Calls Try.prog 54 #[.string alo, .string blo] w fun e w' => e = .returned (.int .i64 c3) ∧ w' = w := fun w => h3 ▸ cmpStr_any _ _ _
  have K1 : Hid (∀ w, Calls Try.prog 53 #[.int .i64 al, .int .i64 bl] w fun e w' => e = .returned (.int .i64 c1) ∧ w' = w) := k1
  have K2 : Hid (∀ w, Calls Try.prog 53 #[.int .i64 bi, .int .i64 ai] w fun e w' => e = .returned (.int .i64 c2) ∧ w' = w) := k2
  have K3 : Hid (∀ w, Calls Try.prog 54 #[.string alo, .string blo] w fun e w' => e = .returned (.int .i64 c3) ∧ w' = w) := k3
  clear h1 h2 h3 k1 k2 k3
  by_cases z : c1 = 0
  · subst z
    by_cases y : al = 0
    · subst y
      go_enter Try.func51, Try.ntmps51
      go_wp2_with fail
      refine (K1.out _).mono ?_
      rintro e w1 ⟨rfl, rfl⟩
      go_wp2_with fail
      refine (K2.out _).mono ?_
      rintro e w1 ⟨rfl, rfl⟩
      go_wp2_with fail
      go_ret
      exact ⟨rfl, rfl⟩
    · have y' : (al == 0) = false := by simp [y]
      go_enter Try.func51, Try.ntmps51
      go_wp2_with fail
      refine (K1.out _).mono ?_
      rintro e w1 ⟨rfl, rfl⟩
      go_wp2_with fail
      refine (K3.out _).mono ?_
      rintro e w1 ⟨rfl, rfl⟩
      go_wp2_with fail
      go_ret
      refine ⟨?_, rfl⟩
      simp [y]
  · have z' : (c1 == 0) = false := by simp [z]
    go_enter Try.func51, Try.ntmps51
    go_wp2_with fail
    refine (K1.out _).mono ?_
    rintro e w1 ⟨rfl, rfl⟩
    go_wp2_with fail
    go_ret
    refine ⟨?_, rfl⟩
    simp [z]

theorem within_any (n a b : Int) (w : World) : Calls Try.prog 38 #[.int .i64 n, .int .i64 a, .int .i64 b] w fun e w' => e = .returned (.bool (decide (a ≤ n ∧ n ≤ b))) ∧ w' = w := by
  go_enter Try.func38, Try.ntmps38
  go_wp2
  all_goals
    go_ret
    refine ⟨?_, rfl⟩
    simp_all
    try omega

theorem numbersOf_any (m : Me) (w : World) : Calls Try.prog 49 #[meV m] w fun e w' => e = .returned (.agg #[.int .i64 m.id, .int .i64 m.lvl, .int .i64 m.cnt]) ∧ Hid (Below w.heap.size w w') := by
  obtain ⟨i, l, c, lo, hi⟩ := m
  unfold meV
  go_enter Try.func49, Try.ntmps49
  go_wp2
  go_returns
  exact ⟨rfl, up_al (up_alloc _ _) _⟩

theorem textsOf_any (m : Me) (w : World) : Calls Try.prog 50 #[meV m] w fun e w' => e = .returned (.agg #[.string m.low, .string m.high]) ∧ Hid (Below w.heap.size w w') := by
  obtain ⟨i, l, c, lo, hi⟩ := m
  unfold meV
  go_enter Try.func50, Try.ntmps50
  go_wp2
  go_returns
  exact ⟨rfl, up_al (up_alloc _ _) _⟩
end Go.Proofs.Ytjdibpmckeifhaa
