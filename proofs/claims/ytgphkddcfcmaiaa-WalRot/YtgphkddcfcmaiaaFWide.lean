/- append of octets onto octets of the call's own, up to greater lengths. -/
import Derived.Test.YtgphkddcfcmaiaaFMath
import Derived.Deep.DeepAppendWide
namespace Go.Proofs.Ytgphkddcfcmaiaa
open Go.RowKit SumPlain
set_option linter.unusedVariables false

theorem wpList_append_octs_wide (w : World) {ops : Array Oper} {rest : List Oper} {o : Oper} {a : Act} {Q : Exit → Act → World → Prop} (hgd : o.guard = none) (s x : Operand)
    (ho : o.op = .call { callee := .builtin .append, args := #[s, x], argTypes := #[25, 25] }) (base : Nat) (v : Value) (l0 : List Int) (hs : a.eval s = v) (hown : OwnB w base v l0)
    (vx : Value) (lx : List Int) (hx : a.eval x = vx) (hO : Octs w vx lx) (hsz : l0.length + lx.length ≤ 211106232532992) (hbase : base ≤ w.heap.size)
    (h : ∀ v' w', OwnB w' base v' (l0 ++ lx) → w.grownBy w' v.ownBlock → wpList Try.prog ops Q rest (a.put o.dst v') w') : wpList Try.prog ops Q (o :: rest) a w := by
  obtain ⟨i0, hi, hz0, hz1, hz2⟩ := info_some Try.info5
  obtain ⟨hoct, hO⟩ := hO
  have fin : ∀ v' w', w'.ownsRow base 5 1 v' (l0.length + lx.length) (l0.map (Value.int .u8) ++ lx.map (Value.int .u8)) → w.grownBy w' v.ownBlock → wpList Try.prog ops Q rest (a.put o.dst v') w' := by
    intro v' w' h1 h2
    refine h v' w' ?_ h2
    unfold OwnB
    rw [List.length_append, List.map_append]
    exact h1
  rcases hO with ⟨rfl, ax, cap, rfl, hn⟩ | ⟨hne, b, off, cap, rfl, hcap, hm, hc⟩
  · cases ax with
    | none =>
      obtain rfl := hn rfl
      refine wpList_append_own_none hgd s x 25 ho base 5 i0 1 Try.underlying25 hi v l0.length (l0.map (Value.int .u8)) hs hown hx ?_
      refine fin v w ?_ (grown_refl w _)
      unfold OwnB at hown
      simpa using hown
    | some ad =>
      refine wpList_append_own_wide w hgd s x 25 ho base 5 i0 (.int .u8 0) 1 1 Try.underlying25 hi hz0 hz1 hz2 rfl (by decide) v l0.length _ hs hown ad 0 cap [] hx rfl (fun j u hj => by simp at hj) (fun u hu => by cases hu) ?_ ?_ hbase ?_
      · simp only [List.length_nil] at hsz; unfold maxLen; omega
      · simp only [List.length_nil] at hsz; omega
      · intro v' w' h1 h2 _
        exact fin v' w' (by simpa using h1) h2
  · refine wpList_append_own_wide w hgd s x 25 ho base 5 i0 (.int .u8 0) 1 1 Try.underlying25 hi hz0 hz1 hz2 rfl (by decide) v l0.length _ hs hown ⟨b, off, none⟩ lx.length cap (lx.map (Value.int .u8)) hx (by simp) ?_ (one_u8 lx) ?_ ?_ hbase ?_
    · intro j u hj
      rw [List.getElem?_map] at hj
      cases hx : lx[j]? with
      | none => rw [hx] at hj; cases hj
      | some y =>
        rw [hx] at hj
        simp at hj
        subst hj
        rw [Addr.add_lit]
        exact hc j y hx
    · unfold maxLen; omega
    · omega
    · intro v' w' h1 h2 _
      exact fin v' w' h1 h2

end Go.Proofs.Ytgphkddcfcmaiaa
