/- The document's one and Compare: for any parts that may be they return what the plain functions say. -/
import Derived.Test.YtjnbjooagdgfpaaRefCmp
import Derived.Test.YtjnbjooagdgfpaaCompare
namespace Go.Proofs.Ytjnbjooagdgfpaa
open Go.RowKit
set_option linter.unusedVariables false

set_option maxHeartbeats 2000000 in
theorem one_any (p q : Bool × Int × List Int) (hp : Pwf p) (hq : Pwf q) (kp : okP p = true) (kq : okP q = true) (w : World) :
    Calls Try.prog 30 #[pval p, pval q] w fun e w' => e = .returned (.int .i64 (cmpP p q)) ∧ w' = (w.alloc (.cells (pcells p).toArray 51)).alloc (.cells (pcells q).toArray 51) := by
  obtain ⟨pb, pn, pt⟩ := p
  obtain ⟨qb, qn, qt⟩ := q
  have o1 : ∀ x ∈ pt, 0 ≤ x ∧ x ≤ 255 := hp.2.1
  have o2 : ∀ x ∈ qt, 0 ≤ x ∧ x ≤ 255 := hq.2.1
  clear hp hq
  unfold pval pcells
  cases pb <;> cases qb
  · obtain rfl : pn = 0 := by simpa [okP] using kp
    obtain rfl : qn = 0 := by simpa [okP] using kq
    have f1 := str_less pt qt o1 o2
    have f2 := str_eq pt qt o1 o2
    have e : cmpP (false, 0, pt) (false, 0, qt) = cmpT pt qt := rfl
    rw [e]
    clear e kp kq o1 o2
    unfold cmpT
    cases c : lessL pt qt
    · rw [c] at f1
      rw [if_neg (by simp)]
      by_cases d : pt = qt
      · subst d
        rw [if_pos rfl]
        simp only
        generalize strOfNums pt = s at *
        clear f2
        go_enter Try.func30, Try.ntmps30
        go_wp2
        go_ret
        exact ⟨rfl, rfl⟩
      · rw [if_neg d]
        rw [decide_eq_false d] at f2
        have f3 : ¬ (strOfNums pt).toList = (strOfNums qt).toList := by simpa using f2
        simp only
        generalize strOfNums pt = s at *
        generalize strOfNums qt = t at *
        go_enter Try.func30, Try.ntmps30
        go_wp2
        go_ret
        exact ⟨rfl, rfl⟩
    · rw [c] at f1
      rw [if_pos rfl]
      simp only
      generalize strOfNums pt = s at *
      generalize strOfNums qt = t at *
      clear f2
      go_enter Try.func30, Try.ntmps30
      go_wp2
      go_ret
      exact ⟨rfl, rfl⟩
  · show Calls _ _ _ _ fun e w' => e = .returned (.int .i64 1) ∧ _
    go_enter Try.func30, Try.ntmps30
    go_wp2
    go_ret
    exact ⟨rfl, rfl⟩
  · show Calls _ _ _ _ fun e w' => e = .returned (.int .i64 (-1)) ∧ _
    go_enter Try.func30, Try.ntmps30
    go_wp2
    go_ret
    exact ⟨rfl, rfl⟩
  · obtain rfl : pt = [] := by simpa [okP] using kp
    obtain rfl : qt = [] := by simpa [okP] using kq
    have e : cmpP (true, pn, []) (true, qn, []) = cmpI pn qn := rfl
    rw [e]
    clear e kp kq o1 o2
    unfold cmpI
    rcases Int.lt_trichotomy pn qn with c | c | c
    · rw [if_pos c]
      go_enter Try.func30, Try.ntmps30
      go_wp2
      go_ret
      exact ⟨rfl, rfl⟩
    · subst c
      rw [if_neg (by omega), if_neg (by omega)]
      go_enter Try.func30, Try.ntmps30
      go_wp2
      go_ret
      exact ⟨rfl, rfl⟩
    · have c1 : ¬ pn < qn := by omega
      have c2 : ¬ pn = qn := by omega
      have c3 : (pn == qn) = false := by simp [c2]
      rw [if_neg c1, if_pos c]
      go_enter Try.func30, Try.ntmps30
      go_wp2
      go_ret
      exact ⟨rfl, rfl⟩
end Go.Proofs.Ytjnbjooagdgfpaa
