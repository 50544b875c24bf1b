/- The program's small functions: Before, mayStand, mayReach. -/
import Derived.Test.YtfnddbglopoghaaLBase
namespace Go.Proofs.Ytfnddbglopoghaa
open Go.RowKit
set_option linter.unusedVariables false
set_option linter.unusedSimpArgs false

set_option maxRecDepth 100000 in
theorem before_any (a b : En) (w : World) :
    Calls Try.prog 37 #[enV a, enV b] w fun e w' => e = .returned (.bool (beforeE a b)) ∧ w' = (w.alloc (enObj a)).alloc (enObj b) := by
  obtain ⟨ak, as1, ad, av⟩ := a
  obtain ⟨bk, bs, bd, bv⟩ := b
  unfold enV
  by_cases hk : ak.toList = bk.toList
  · have hk2 : (ak.toList == bk.toList) = true := by simp [hk]
    go_enter Try.func37, Try.ntmps37
    go_wp2
    all_goals
      go_ret
      refine ⟨?_, rfl⟩
      have hself : ∀ l : List UInt8, Op.bytesLess l l = false := by
        intro l
        induction l with
        | nil => rfl
        | cons x l ih => simp [Op.bytesLess, ih]
      simp_all [beforeE]
  · have hk2 : (ak.toList == bk.toList) = false := by simp [hk]
    go_enter Try.func37, Try.ntmps37
    go_wp2
    all_goals
      go_ret
      refine ⟨?_, rfl⟩
      simp_all [beforeE]

set_option maxHeartbeats 1000000 in
set_option maxRecDepth 100000 in
theorem mayStand_any (a : En) (w : World) :
    Calls Try.prog 61 #[enV a] w fun e w' => e = .returned (.bool (mayE a)) ∧ w' = w.alloc (enObj a) := by
  obtain ⟨ak, as1, ad, av⟩ := a
  unfold enV
  go_enter Try.func61, Try.ntmps61
  go_wp2
  all_goals
    go_ret
    refine ⟨?_, by simp_all [enObj]⟩
    have hav : av.toList = [] → (av.size : Int) ≤ 512 := by
      intro h
      have : av.size = 0 := by
        have h2 := congrArg List.length h
        rw [ByteArray.toList_eq] at h2
        simpa using h2
      omega
    simp_all [mayE]
    try first | omega | (intros; omega) | (cases hq : av.toList with | nil => simp [hav hq] | cons x l => simp) | (cases av.toList <;> simp; done)

def reachP (h : Int) : Bool := decide (1 ≤ h ∧ h ≤ 8)
set_option maxRecDepth 100000 in
theorem mayReach_any (h : Int) (w : World) :
    Calls Try.prog 62 #[.int .i64 h] w fun e w' => e = .returned (.bool (reachP h)) ∧ w' = w := by
  go_enter Try.func62, Try.ntmps62
  go_wp2
  all_goals
    go_ret
    refine ⟨?_, rfl⟩
    simp_all [reachP]
    try omega
end Go.Proofs.Ytfnddbglopoghaa
