/- The document's leaves of layer 11: may a key be, may a meta be, which of two comes first, may a number be. -/
import Derived.Test.YtjdibpmckeifhaaEMath
import Derived.Test.YtjdibpmckeifhaaLBlk
namespace Go.Proofs.Ytjdibpmckeifhaa
open Go.RowKit
set_option linter.unusedVariables false
set_option linter.unusedSimpArgs false

def meObj (m : Me) : Obj := .cells #[.int .i64 m.id, .int .i64 m.lvl, .int .i64 m.cnt, .string m.low, .string m.high] 52

set_option maxRecDepth 100000 in
theorem refKeyM_any (s : ByteArray) (w : World) :
    Calls Try.prog 48 #[.string s] w fun e w' => e = .returned (.bool (keyM s)) ∧ w' = w := by
  go_enter Try.func48, Try.ntmps48
  go_wp2
  all_goals
    go_ret
    refine ⟨?_, rfl⟩
    simp_all [keyM]
    try omega

set_option maxRecDepth 100000 in
theorem refBefM_any (a b : Me) (w : World) :
    Calls Try.prog 37 #[meV a, meV b] w fun e w' => e = .returned (.bool (befM a b)) ∧ w' = (w.alloc (meObj a)).alloc (meObj b) := by
  obtain ⟨ai, al, ac, alo, ahi⟩ := a
  obtain ⟨bi, bl, bc, blo, bhi⟩ := b
  unfold meV
  go_enter Try.func37, Try.ntmps37
  go_wp2
  all_goals
    go_ret
    refine ⟨?_, rfl⟩
    simp_all [befM]

set_option maxHeartbeats 1000000 in
set_option maxRecDepth 100000 in
theorem refMayM_any (m : Me) (w : World) :
    Calls Try.prog 36 #[meV m] w fun e w' => e = .returned (.bool (mayM m)) ∧ w' = w.alloc (meObj m) := by
  obtain ⟨i, l, c, lo, hi⟩ := m
  unfold meV
  go_enter Try.func36, Try.ntmps36
  go_wp2
  all_goals
    go_ret
    refine ⟨?_, by simp_all [meObj]⟩
    simp_all [mayM, keyM, leM]
    try first | omega | (intros; omega)
end Go.Proofs.Ytjdibpmckeifhaa
