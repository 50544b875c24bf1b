/- Slices of structs of any type as plain lists of rows of cells: read, owned, appended to, written into. No Go function is walked here. -/
import Derived.Test.YtfomogahlcmniaaKBase
import Derived.Deep.DeepAppendWide
import Derived.Deep.AppendLies
import Derived.Deep.RegionHeld3
import Derived.Deep.OwnRows
namespace Go.Proofs.Ytfomogahlcmniaa
open Go.RowKit
set_option linter.unusedVariables false

/-- The slice v holds in w the rows css, each of sz cells. -/
def Rws (sz : Nat) (w : World) (v : Value) (css : List (List Value)) : Prop :=
  (∀ cs ∈ css, cs.length = sz) ∧ ∃ a cap, v = .slice a css.length cap ∧ css.length ≤ cap ∧ cap ≤ maxLen ∧ (a = none → cap = 0) ∧
    (css ≠ [] → ∃ b off, a = some ⟨b, off, none⟩ ∧ ∀ j cs, css[j]? = some cs → ∀ i u, cs[i]? = some u → w.cell? ⟨b, off + j * sz + i, none⟩ = some u)

theorem Rws.moved {sz : Nat} {w w' : World} {v : Value} {css : List (List Value)} (h : Rws sz w v css) (e : ∀ b off x, css ≠ [] → v.ownBlock = some b → w.cell? ⟨b, off, none⟩ = some x → w'.cell? ⟨b, off, none⟩ = some x) : Rws sz w' v css := by
  obtain ⟨hx, a, cap, rfl, h1, h2, h3, h4⟩ := h
  refine ⟨hx, a, cap, rfl, h1, h2, h3, fun hn => ?_⟩
  obtain ⟨b, off, rfl, hc⟩ := h4 hn
  exact ⟨b, off, rfl, fun j cs hj i u hi => e b _ u hn rfl (hc j cs hj i u hi)⟩

theorem Rws.up {sz : Nat} {w w' : World} {v : Value} {css : List (List Value)} (h : Rws sz w v css) (hb : Below w.heap.size w w') : Rws sz w' v css :=
  h.moved fun b off x hn hv hc => (hb.cell (p := ⟨b, off, none⟩) (World.block_lt_of_cell? w ⟨b, off, none⟩ hc)).trans hc

theorem Rws.far {sz : Nat} {w w' : World} {v : Value} {css : List (List Value)} {r : Option Nat} (h : Rws sz w v css) (hg : w.grownBy w' r) (hne : ∀ b, v.ownBlock = some b → css ≠ [] → some b ≠ r) : Rws sz w' v css :=
  h.moved fun b off x hn hv hc => hg.cell hc (hne b hv hn)

theorem Rws.len {sz : Nat} {w : World} {v : Value} {css : List (List Value)} (h : Rws sz w v css) : ∃ a cap, v = .slice a css.length cap ∧ css.length ≤ cap ∧ cap ≤ maxLen := by
  obtain ⟨_, a, cap, rfl, h1, h2, _⟩ := h
  exact ⟨a, cap, rfl, h1, h2⟩

theorem Rws.at {sz : Nat} {w : World} {v : Value} {css : List (List Value)} (h : Rws sz w v css) (k : Nat) (hk : k < css.length) :
    ∃ b off cap, v = .slice (some ⟨b, off, none⟩) css.length cap ∧ css.length ≤ cap ∧ cap ≤ maxLen ∧ ∀ i u, (css.getD k [])[i]? = some u → w.cell? ⟨b, off + k * sz + i, none⟩ = some u := by
  obtain ⟨_, a, cap, rfl, h1, h2, _, h4⟩ := h
  obtain ⟨b, off, rfl, hc⟩ := h4 (by intro e; rw [e] at hk; simp at hk)
  exact ⟨b, off, cap, rfl, h1, h2, hc k _ (by simp [List.getD, hk])⟩

theorem Rws.nil (sz : Nat) (w : World) : Rws sz w (.slice none 0 0) [] := ⟨(fun cs h => by cases h), none, 0, rfl, Nat.le_refl _, Nat.zero_le _, fun _ => rfl, fun h => absurd rfl h⟩

/-- The first n of the rows. -/
theorem Rws.first {sz : Nat} {w : World} {a : Option Addr} {m cap : Nat} {css : List (List Value)} (h : Rws sz w (.slice a m cap) css) (n : Nat) (hn : n ≤ css.length) : Rws sz w (.slice a n cap) (css.take n) := by
  obtain ⟨hx, a', cap', e, h1, h2, h3, h4⟩ := h
  simp at e
  obtain ⟨rfl, rfl, rfl⟩ := e
  have hl : (css.take n).length = n := by rw [List.length_take]; omega
  refine ⟨fun cs hc => hx cs (List.mem_of_mem_take hc), a, cap, by rw [hl], by omega, h2, h3, fun hne => ?_⟩
  obtain ⟨b, off, rfl, hc⟩ := h4 (by intro e; rw [e] at hne; simp at hne)
  refine ⟨b, off, rfl, fun j cs hj => hc j cs ?_⟩
  rw [List.getElem?_take] at hj
  split at hj
  · exact hj
  · cases hj

theorem flat_at {sz : Nat} : ∀ (css : List (List Value)) (_ : ∀ cs ∈ css, cs.length = sz) (j : Nat) (cs : List Value) (_ : css[j]? = some cs) (i : Nat) (u : Value) (_ : cs[i]? = some u), css.flatten[j * sz + i]? = some u
  | [], _, j, cs, h, _, _, _ => by simp at h
  | c :: css, hx, 0, cs, h, i, u, hi => by
    simp at h
    subst h
    have : i < c.length := (List.getElem?_eq_some_iff.1 hi).1
    rw [List.flatten_cons, Nat.zero_mul, Nat.zero_add, List.getElem?_append_left this]
    exact hi
  | c :: css, hx, j + 1, cs, h, i, u, hi => by
    simp at h
    have e := flat_at css (fun d hd => hx d (by simp [hd])) j cs h i u hi
    have hc := hx c (by simp)
    rw [List.flatten_cons, List.getElem?_append_right (by rw [hc, Nat.add_mul]; omega), hc, Nat.add_mul]
    rw [show j * sz + 1 * sz + i - sz = j * sz + i by omega]
    exact e

theorem flat_rows {sz : Nat} (css : List (List Value)) (hx : ∀ cs ∈ css, cs.length = sz) : css.flatten.length = css.length * sz := by
  induction css with
  | nil => simp
  | cons c css ih =>
    rw [List.flatten_cons, List.length_append, ih (fun d hd => hx d (by simp [hd])), hx c (by simp), List.length_cons, Nat.add_mul]
    omega

/-- The slice v lies in memory of the call's own (no block below base) and holds the rows css in w. -/
def OwnR (w : World) (base : Nat) (e : TypeId) (sz : Nat) (v : Value) (css : List (List Value)) : Prop := (∀ cs ∈ css, cs.length = sz) ∧ w.ownsRow base e sz v css.length css.flatten

theorem OwnR.nil (w : World) (base : Nat) (e : TypeId) (sz : Nat) : OwnR w base e sz (.slice none 0 0) [] := ⟨fun cs h => (by cases h), World.ownsRow_nil _ _ _ _⟩
theorem OwnR.up {w w' : World} {base : Nat} {e : TypeId} {sz : Nat} {v : Value} {css : List (List Value)} (h : OwnR w base e sz v css) (hb : Below w.heap.size w w') : OwnR w' base e sz v css := ⟨h.1, own_up h.2 hb⟩
theorem OwnR.far {w w' : World} {base : Nat} {e : TypeId} {sz : Nat} {v : Value} {css : List (List Value)} {r : Option Nat} (h : OwnR w base e sz v css) (hg : w.grownBy w' r) (hne : v.ownBlock = none ∨ v.ownBlock ≠ r) : OwnR w' base e sz v css := ⟨h.1, World.ownsRow.kept h.2 hg hne⟩
theorem OwnR.mono {w : World} {base base' : Nat} {e : TypeId} {sz : Nat} {v : Value} {css : List (List Value)} (h : OwnR w base e sz v css) (hb : base' ≤ base) : OwnR w base' e sz v css := by
  obtain ⟨h0, h1, h2⟩ := h
  refine ⟨h0, h1, ?_⟩
  rcases h2 with h0 | ⟨g, cap, cur, rfl, hg, r⟩
  · exact .inl h0
  · exact .inr ⟨g, cap, cur, rfl, Nat.le_trans hb hg, r⟩

theorem Rws.own {w : World} {base : Nat} {e : TypeId} {sz : Nat} {v : Value} {css : List (List Value)} (h : OwnR w base e sz v css) : Rws sz w v css := by
  obtain ⟨hx, _, h2⟩ := h
  refine ⟨hx, ?_⟩
  rcases h2 with ⟨rfl, h0⟩ | ⟨g, cap, cur, rfl, hg, hh, hn, hm, hs, ht⟩
  · have e : css = [] := List.length_eq_zero_iff.1 h0
    subst e
    exact ⟨none, 0, rfl, by simp, by simp, fun _ => rfl, fun h => absurd rfl h⟩
  · refine ⟨some ⟨g, 0, none⟩, cap, rfl, hn, hm, (fun h => by cases h), fun hl => ⟨g, 0, rfl, fun j cs hj i u hi => ?_⟩⟩
    have e := flat_at css hx j cs hj i u hi
    rw [← ht, List.getElem?_take] at e
    split at e
    · simp only [World.cell?, hh, Nat.zero_add]
      simpa using e
    · cases e

/-- Rows that the statement itself writes out. -/
theorem Rws.made {sz : Nat} (w : World) (e : TypeId) (css : List (List Value)) (hx : ∀ cs ∈ css, cs.length = sz) (hm : css.length ≤ maxLen) : Rws sz (w.alloc (.cells css.flatten.toArray e)) (.slice (some ⟨w.heap.size, 0, none⟩) css.length css.length) css := by
  refine ⟨hx, some ⟨w.heap.size, 0, none⟩, css.length, rfl, Nat.le_refl _, hm, (fun h => by cases h), fun _ => ⟨w.heap.size, 0, rfl, fun j cs hj i u hi => ?_⟩⟩
  have f := flat_at css hx j cs hj i u hi
  have := cells_new w css.flatten [] e (j * sz + i) u f
  rw [Addr.add_lit] at this
  simpa [Nat.add_assoc] using this

theorem wp_append_rows (w : World) {o : Oper} {a : Act} {K : Act → World → Prop} {Q : Exit → Act → World → Prop} (s x : Operand) (t e : TypeId) (z : Value) (sz bytes : Nat)
    (ho : o.op = .call { callee := .builtin .append, args := #[s, x], argTypes := #[t, t] }) (ht : Try.prog.underlying t = some (.slice e))
    (hinf : (Try.prog.info? e).map (fun i => (i.zero, i.size, i.bytes)) = some (some z, sz, bytes)) (hzs : z.cells.size = sz) (hsz0 : 0 < sz)
    (base : Nat) (v : Value) (css0 : List (List Value)) (hs : a.eval s = v) (hown : OwnR w base e sz v css0)
    (vx : Value) (cssx : List (List Value)) (hx : a.eval x = vx) (hR : Rws sz w vx cssx) (h1 : ∀ cs ∈ cssx, ∀ u ∈ cs, u.oneCell' = true) (hb : ((css0.length + cssx.length) + (css0.length + cssx.length) / 4 + 192) * bytes ≤ 281474976710656) (hm : css0.length + cssx.length ≤ maxLen) (hbase : base ≤ w.heap.size)
    (h : ∀ v' w', OwnR w' base e sz v' (css0 ++ cssx) → w.grownBy w' v.ownBlock → K (a.put o.dst v') w') : o.wp Try.prog a w K Q := by
  obtain ⟨i0, hi, hz0, hz1, hz2⟩ := info_some hinf
  obtain ⟨hxx, ax, cap, rfl, hc1, hc2, hn, h4⟩ := hR
  have fin : ∀ v' w', w'.ownsRow base e sz v' (css0.length + cssx.length) (css0.flatten ++ cssx.flatten) → w.grownBy w' v.ownBlock → K (a.put o.dst v') w' := by
    intro v' w' q1 q2
    refine h v' w' ⟨?_, ?_⟩ q2
    · intro cs hcs
      rcases List.mem_append.1 hcs with q | q
      · exact hown.1 cs q
      · exact hxx cs q
    · rw [List.length_append, List.flatten_append]
      exact q1
  have hone : ∀ u ∈ cssx.flatten, u.oneCell' = true := by
    intro u hu
    obtain ⟨cs, q1, q2⟩ := List.mem_flatten.1 hu
    exact h1 cs q1 u q2
  cases ax with
  | none =>
    obtain rfl := hn rfl
    have hl : cssx.length = 0 := by omega
    obtain rfl : cssx = [] := List.length_eq_zero_iff.1 hl
    have hrun := run_append_owned_none (P := Try.prog) (w := w) base t o.type e i0 sz ht hi v css0.length css0.flatten hown.2
    unfold Oper.wp
    simp [execOp, ho, resolve, invoke, builtin, hs, hx, hrun, Result.andThen]
    exact fin v w (by simpa using hown.2) (grown_refl w _)
  | some ad =>
    refine wp_append_own_wide w s x t ho base e i0 z sz bytes ht hi hz0 hz1 hz2 hzs hsz0 v css0.length _ hs hown.2 ad cssx.length cap cssx.flatten hx (flat_rows cssx hxx) ?_ hone hm hb hbase ?_
    · intro j u hj
      have hjl : j < cssx.length * sz := by
        have := (List.getElem?_eq_some_iff.1 hj).1
        rw [flat_rows cssx hxx] at this
        exact this
      have hne : cssx ≠ [] := by intro q; rw [q] at hjl; simp at hjl
      obtain ⟨b, off, e1, hcc⟩ := h4 hne
      simp at e1
      subst e1
      have hq : j / sz < cssx.length := (Nat.div_lt_iff_lt_mul hsz0).2 hjl
      have hr : j % sz < sz := Nat.mod_lt _ hsz0
      have hcs := List.getElem?_eq_getElem hq
      have hlen := hxx cssx[j / sz] (List.getElem_mem hq)
      have hu := flat_at cssx hxx (j / sz) _ hcs (j % sz) _ (List.getElem?_eq_getElem (by omega))
      have ej : j / sz * sz + j % sz = j := by rw [Nat.mul_comm]; exact Nat.div_add_mod j sz
      rw [ej, hj] at hu
      have := hcc (j / sz) _ hcs (j % sz) u (by rw [hu]; exact List.getElem?_eq_getElem (by omega))
      rw [Nat.add_assoc, ej] at this
      rw [Addr.add_lit]
      exact this
    · intro v' w' q1 q2 _
      exact fin v' w' q1 q2

theorem wpList_append_rows (w : World) {ops : Array Oper} {rest : List Oper} {o : Oper} {a : Act} {Q : Exit → Act → World → Prop} (hgd : Region.wanted o (yielded ops a.tmps) = true) (s x : Operand) (t e : TypeId) (z : Value) (sz bytes : Nat)
    (ho : o.op = .call { callee := .builtin .append, args := #[s, x], argTypes := #[t, t] }) (ht : Try.prog.underlying t = some (.slice e))
    (hinf : (Try.prog.info? e).map (fun i => (i.zero, i.size, i.bytes)) = some (some z, sz, bytes)) (hzs : z.cells.size = sz) (hsz0 : 0 < sz)
    (base : Nat) (v : Value) (css0 : List (List Value)) (hs : a.eval s = v) (hown : OwnR w base e sz v css0)
    (vx : Value) (cssx : List (List Value)) (hx : a.eval x = vx) (hR : Rws sz w vx cssx) (h1 : ∀ cs ∈ cssx, ∀ u ∈ cs, u.oneCell' = true) (hb : ((css0.length + cssx.length) + (css0.length + cssx.length) / 4 + 192) * bytes ≤ 281474976710656) (hm : css0.length + cssx.length ≤ maxLen) (hbase : base ≤ w.heap.size)
    (h : ∀ v' w', OwnR w' base e sz v' (css0 ++ cssx) → w.grownBy w' v.ownBlock → wpList Try.prog ops Q rest (a.put o.dst v') w') : wpList Try.prog ops Q (o :: rest) a w := by
  unfold wpList
  rw [if_pos hgd]
  exact .inl (wp_append_rows w s x t e z sz bytes ho ht hinf hzs hsz0 base v css0 hs hown vx cssx hx hR h1 hb hm hbase h)

/-- At a step of a statement whose order is drawn. -/
theorem step_append_rows (w : World) {ops : Array Oper} {o : Oper} {a : Act} {K : Act → World → Prop} {Q : Exit → Act → World → Prop} {E : Prop} (hgd : o.guard = none) (s x : Operand) (t e : TypeId) (z : Value) (sz bytes : Nat)
    (ho : o.op = .call { callee := .builtin .append, args := #[s, x], argTypes := #[t, t] }) (ht : Try.prog.underlying t = some (.slice e))
    (hinf : (Try.prog.info? e).map (fun i => (i.zero, i.size, i.bytes)) = some (some z, sz, bytes)) (hzs : z.cells.size = sz) (hsz0 : 0 < sz)
    (base : Nat) (v : Value) (css0 : List (List Value)) (hs : a.eval s = v) (hown : OwnR w base e sz v css0)
    (vx : Value) (cssx : List (List Value)) (hx : a.eval x = vx) (hR : Rws sz w vx cssx) (h1 : ∀ cs ∈ cssx, ∀ u ∈ cs, u.oneCell' = true) (hb : ((css0.length + cssx.length) + (css0.length + cssx.length) / 4 + 192) * bytes ≤ 281474976710656) (hm : css0.length + cssx.length ≤ maxLen) (hbase : base ≤ w.heap.size)
    (h : ∀ v' w', OwnR w' base e sz v' (css0 ++ cssx) → w.grownBy w' v.ownBlock → K (a.put o.dst v') w') :
    if Region.wanted o (yielded ops a.tmps) = true then Oper.wp Try.prog o a w K Q else E := by
  have hw : Region.wanted o (yielded ops a.tmps) = true := by simp [Region.wanted, hgd]
  rw [if_pos hw]
  exact wp_append_rows w s x t e z sz bytes ho ht hinf hzs hsz0 base v css0 hs hown vx cssx hx hR h1 hb hm hbase h

/-- append of one row that the statement itself writes out: the block's number with a proof. -/
theorem wpList_append_row (w0 : World) {ops : Array Oper} {rest : List Oper} {o : Oper} {a : Act} {Q : Exit → Act → World → Prop} (hgd : Region.wanted o (yielded ops a.tmps) = true) (s x : Operand) (t e : TypeId) (z : Value) (sz bytes : Nat)
    (ho : o.op = .call { callee := .builtin .append, args := #[s, x], argTypes := #[t, t] }) (ht : Try.prog.underlying t = some (.slice e))
    (hinf : (Try.prog.info? e).map (fun i => (i.zero, i.size, i.bytes)) = some (some z, sz, bytes)) (hzs : z.cells.size = sz) (hsz0 : 0 < sz)
    (base : Nat) (v : Value) (css0 : List (List Value)) (hs : a.eval s = v) (hown : OwnR w0 base e sz v css0)
    (cs : List Value) (csa : Array Value) (N : Nat) (hN : N = w0.heap.size) (hcsa : cs.toArray = csa) (hcl : cs.length = sz) (hx : a.eval x = .slice (some ⟨N, 0, none⟩) 1 1) (h1 : ∀ u ∈ cs, u.oneCell' = true) (hb : ((css0.length + 1) + (css0.length + 1) / 4 + 192) * bytes ≤ 281474976710656) (hm : css0.length + 1 ≤ maxLen) (hbase : base ≤ w0.heap.size)
    (h : ∀ v' w', OwnR w' base e sz v' (css0 ++ [cs]) → Below base w0 w' → wpList Try.prog ops Q rest (a.put o.dst v') w') : wpList Try.prog ops Q (o :: rest) a (w0.alloc (.cells csa e)) := by
  subst hcsa
  subst hN
  have hR := Rws.made (sz := sz) w0 e [cs] (by simp [hcl]) (by simp [maxLen])
  simp only [List.flatten_cons, List.flatten_nil, List.append_nil, List.length_cons, List.length_nil, Nat.zero_add] at hR
  refine wpList_append_rows _ hgd s x t e z sz bytes ho ht hinf hzs hsz0 base v css0 hs ⟨hown.1, World.ownsRow.alloc hown.2 _⟩ _ [cs] hx hR (by simpa using h1) (by simpa using hb) (by simpa using hm) (by simp; omega) ?_
  intro v' w' q1 q2
  exact h v' w' q1 (Below.grown ((Below.refl base w0).alloc hbase _) q2 (by simp; omega) (fun k hk => (hown.2.lt k hk).1))

theorem flat_set {sz : Nat} : ∀ (css : List (List Value)) (_ : ∀ cs ∈ css, cs.length = sz) (j : Nat) (_ : j < css.length) (i : Nat) (_ : i < sz) (u : Value), css.flatten.set (j * sz + i) u = (css.set j ((css.getD j []).set i u)).flatten
  | [], _, j, h, _, _, _ => by simp at h
  | c :: css, hx, 0, _, i, hi, u => by
    have hc := hx c (by simp)
    rw [List.flatten_cons, Nat.zero_mul, Nat.zero_add, List.set_append_left _ _ (by omega)]
    simp
  | c :: css, hx, j + 1, h, i, hi, u => by
    have hc := hx c (by simp)
    have e := flat_set css (fun d hd => hx d (by simp [hd])) j (by simpa using h) i hi u
    rw [List.flatten_cons, List.set_append_right _ _ (by rw [hc, Nat.add_mul]; omega), hc, Nat.add_mul]
    rw [show j * sz + 1 * sz + i - sz = j * sz + i by omega, e]
    simp [List.getD]

/-- One cell of an owned row is written. -/
theorem OwnR.set {w : World} {base : Nat} {e : TypeId} {sz g n cap : Nat} {css : List (List Value)} (h : OwnR w base e sz (.slice (some ⟨g, 0, none⟩) n cap) css) (hn : css.length = n) (j : Nat) (hj : j < n) (i : Nat) (hi : i < sz) (u : Value) :
    OwnR (w.setCell ⟨g, j * sz + i, none⟩ u) base e sz (.slice (some ⟨g, 0, none⟩) n cap) (css.set j ((css.getD j []).set i u)) ∧ w.grownBy (w.setCell ⟨g, j * sz + i, none⟩ u) (some g) ∧ w.frozen? ⟨g, j * sz + i, none⟩ = false := by
  subst hn
  obtain ⟨h0, h1⟩ := h
  have st := h1.stored (j * sz + i) u
  refine ⟨⟨?_, ?_⟩, st.2, h1.frozenAt _⟩
  · intro cs hcs
    rcases List.mem_or_eq_of_mem_set hcs with q | q
    · exact h0 cs q
    · rw [q, List.length_set]
      exact h0 _ (by simp [List.getD, hj])
  · rw [List.length_set, ← flat_set css h0 j hj i hi u]
    exact st.1
end Go.Proofs.Ytfomogahlcmniaa
