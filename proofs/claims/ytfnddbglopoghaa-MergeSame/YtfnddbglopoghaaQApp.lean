/- Appends within a round of a loop over a function. -/
import Derived.Test.YtfnddbglopoghaaQRng
import Derived.Stop.RegionWithIn
namespace Go.Proofs.Ytfnddbglopoghaa
open Go.RowKit Go.Shelf
set_option linter.unusedVariables false
set_option linter.unusedSimpArgs false
theorem wide_fn (f : FuncId) : Fence.wide.fn f = True := rfl
attribute [local go_sem] Oper.semAt_some wide_fn

theorem wpListIn_append_rowsQ {F : Fence} {nF : Nat} (w : World) {ops : Array Oper} {rest : List Oper} {o : Oper} {a : Act} {Q : Exit → Act → World → Prop} (hgd : o.guard = none) (s x : Operand) (t e : TypeId) (z : Value) (sz bytes : Nat)
    (ho : o.op = .call { callee := .builtin .append, args := #[s, x], argTypes := #[t, t] }) (ht : Try.prog.underlying t = some (.slice e))
    (hinf : (Try.prog.info? e).map (fun i => (i.zero, i.size, i.bytes)) = some (some z, sz, bytes)) (hzs : z.cells.size = sz) (hsz0 : 0 < sz)
    (base : Nat) (v : Value) (css0 : List (List Value)) (hs : a.eval s = v) (hown : OwnR w base e sz v css0)
    (vx : Value) (cssx : List (List Value)) (hx : a.eval x = vx) (hR : Rws sz w vx cssx) (h1 : ∀ cs ∈ cssx, ∀ u ∈ cs, u.oneCell' = true) (hb : (css0.length + cssx.length) * bytes ≤ 140737488355328) (hm : css0.length + cssx.length ≤ maxLen) (hbase : base ≤ w.heap.size)
    (h : ∀ v' w', OwnR w' base e sz v' (css0 ++ cssx) → w.grownBy w' v.ownBlock → wpListIn F nF Try.prog ops Q rest (a.put o.dst v') w') : wpListIn F nF Try.prog ops Q (o :: rest) a w := by
  obtain ⟨i0, hi, hz0, hz1, hz2⟩ := info_some hinf
  obtain ⟨hxx, ax, cap, rfl, hc1, hc2, hn, h4⟩ := hR
  have fin : ∀ v' w', w'.ownsRow base e sz v' (css0.length + cssx.length) (css0.flatten ++ cssx.flatten) → w.grownBy w' v.ownBlock → wpListIn F nF Try.prog ops Q rest (a.put o.dst v') w' := by
    intro v' w' q1 q2
    refine h v' w' ⟨?_, ?_⟩ q2
    · intro cs hcs
      rcases List.mem_append.1 hcs with q | q
      · exact hown.1 cs q
      · exact hxx cs q
    · rw [List.length_append, List.flatten_append]
      exact q1
  have hone : ∀ u ∈ cssx.flatten, u.oneCell' = true := by
    intro u hu
    obtain ⟨cs, q1, q2⟩ := List.mem_flatten.1 hu
    exact h1 cs q1 u q2
  cases ax with
  | none =>
    obtain rfl := hn rfl
    have hl : cssx.length = 0 := by omega
    obtain rfl : cssx = [] := List.length_eq_zero_iff.1 hl
    have hrun := run_append_owned_none (P := Try.prog) (w := w) base t o.type e i0 sz ht hi v css0.length css0.flatten hown.2
    refine wpListIn_plain hgd fun K hK => ?_
    unfold Oper.wpIn
    refine ⟨by simp [Oper.about, ho, resolve, Target.leads, Sem.run_pure], ?_⟩
    rw [Oper.semAt_plain F _ _ (by rw [ho]; intro c hc'; cases hc')]
    simp [execOp, ho, resolve, invoke, builtin, hs, hx, hrun, Result.andThen]
    exact hK _ _ (fin v w (by simpa using hown.2) (grown_refl w _))
  | some ad =>
    refine wpListIn_append_own_at w hgd s x t ho base e i0 z sz bytes ht hi hz0 hz1 hz2 hzs hsz0 v css0.length _ hs hown.2 ad cssx.length cap cssx.flatten hx (flat_rows cssx hxx) ?_ hone hm hb hbase ?_
    · intro j u hj
      have hjl : j < cssx.length * sz := by
        have := (List.getElem?_eq_some_iff.1 hj).1
        rw [flat_rows cssx hxx] at this
        exact this
      have hne : cssx ≠ [] := by intro q; rw [q] at hjl; simp at hjl
      obtain ⟨b, off, e1, hcc⟩ := h4 hne
      simp at e1
      subst e1
      have hq : j / sz < cssx.length := (Nat.div_lt_iff_lt_mul hsz0).2 hjl
      have hr : j % sz < sz := Nat.mod_lt _ hsz0
      have hcs := List.getElem?_eq_getElem hq
      have hlen := hxx cssx[j / sz] (List.getElem_mem hq)
      have hu := flat_at cssx hxx (j / sz) _ hcs (j % sz) _ (List.getElem?_eq_getElem (by omega))
      have ej : j / sz * sz + j % sz = j := by rw [Nat.mul_comm]; exact Nat.div_add_mod j sz
      rw [ej, hj] at hu
      have := hcc (j / sz) _ hcs (j % sz) u (by rw [hu]; exact List.getElem?_eq_getElem (by omega))
      rw [Nat.add_assoc, ej] at this
      rw [Addr.add_lit]
      exact this
    · intro v' w' q1 q2 _ _
      exact fin v' w' q1 q2
theorem wpListIn_append_rowQ {F : Fence} {nF : Nat} (w0 : World) {ops : Array Oper} {rest : List Oper} {o : Oper} {a : Act} {Q : Exit → Act → World → Prop} (hgd : o.guard = none) (s x : Operand) (t e : TypeId) (z : Value) (sz bytes : Nat)
    (ho : o.op = .call { callee := .builtin .append, args := #[s, x], argTypes := #[t, t] }) (ht : Try.prog.underlying t = some (.slice e))
    (hinf : (Try.prog.info? e).map (fun i => (i.zero, i.size, i.bytes)) = some (some z, sz, bytes)) (hzs : z.cells.size = sz) (hsz0 : 0 < sz)
    (base : Nat) (v : Value) (css0 : List (List Value)) (hs : a.eval s = v) (hown : OwnR w0 base e sz v css0)
    (cs : List Value) (csa : Array Value) (N : Nat) (hN : N = w0.heap.size) (hcsa : cs.toArray = csa) (hcl : cs.length = sz) (hx : a.eval x = .slice (some ⟨N, 0, none⟩) 1 1) (h1 : ∀ u ∈ cs, u.oneCell' = true) (hb : (css0.length + 1) * bytes ≤ 140737488355328) (hm : css0.length + 1 ≤ maxLen) (hbase : base ≤ w0.heap.size)
    (h : ∀ v' w', OwnR w' base e sz v' (css0 ++ [cs]) → w0.grownBy w' v.ownBlock → wpListIn F nF Try.prog ops Q rest (a.put o.dst v') w') : wpListIn F nF Try.prog ops Q (o :: rest) a (w0.alloc (.cells csa e)) := by
  subst hcsa
  subst hN
  have hR := Rws.made (sz := sz) w0 e [cs] (by simp [hcl]) (by simp [maxLen])
  simp only [List.flatten_cons, List.flatten_nil, List.append_nil, List.length_cons, List.length_nil, Nat.zero_add] at hR
  refine wpListIn_append_rowsQ _ hgd s x t e z sz bytes ho ht hinf hzs hsz0 base v css0 hs ⟨hown.1, World.ownsRow.alloc hown.2 _⟩ _ [cs] hx hR (by simpa using h1) (by simpa using hb) (by simpa using hm) (by simp; omega) ?_
  intro v' w' q1 q2
  exact h v' w' q1 (grown_trans (grown_up (up_alloc w0 _) _) q2)
/-- What is owned stays while an elder block is written. -/
theorem OwnR.apart {w w' : World} {base : Nat} {e : TypeId} {sz : Nat} {v : Value} {css : List (List Value)} {r : Option Nat} (h : OwnR w base e sz v css) (hg : w.grownBy w' r) (hr : ∀ k, r = some k → k < base) : OwnR w' base e sz v css := by
  refine h.far hg ?_
  cases e : v.ownBlock with
  | none => exact .inl rfl
  | some g => exact .inr (fun e2 => by have := hr g e2.symm; have := (h.2.lt g e).1; omega)
theorem up_drw (W : World) : Below W.heap.size W W.drew := ⟨rfl, rfl, rfl, Nat.le_refl _, fun _ _ => rfl⟩
theorem loop_back {r : Loop} (h : r.state = .ready ∧ r.pending = none) : ({ ({ r with state := .busy } : Loop) with state := if (none : Option Code).isNone then LoopState.ready else LoopState.done, pending := none } : Loop) = r := by
  obtain ⟨r1, r2⟩ := h
  cases r
  simp at r1 r2
  subst r1 r2
  rfl
end Go.Proofs.Ytfnddbglopoghaa
