/- The texts RBase, LBlk, LUp, HName, HAto, in this order. -/
import Derived.Test.YtnchjlimkgbfpaaGreatDoorE01
import Derived.Deep.DeepAppendWide
import Derived.Deep.AppendLies
import Derived.Deep.RegionHeld3
import Derived.Deep.OwnRows
import Derived.Deep.QuietTactic

namespace Go.Proofs.YtnchjlimkgbfpaaGreatDoor
open Go.RowKit
set_option linter.unusedVariables false
set_option maxRecDepth 20000
def Rws (sz : Nat) (w : World) (v : Value) (css : List (List Value)) : Prop :=
  (∀ cs ∈ css, cs.length = sz) ∧ ∃ a cap, v = .slice a css.length cap ∧ css.length ≤ cap ∧ cap ≤ maxLen ∧ (a = none → cap = 0) ∧
    (css ≠ [] → ∃ b off, a = some ⟨b, off, none⟩ ∧ ∀ j cs, css[j]? = some cs → ∀ i u, cs[i]? = some u → w.cell? ⟨b, off + j * sz + i, none⟩ = some u)
theorem Rws.moved {sz : Nat} {w w' : World} {v : Value} {css : List (List Value)} (h : Rws sz w v css) (e : ∀ b off x, css ≠ [] → v.ownBlock = some b → w.cell? ⟨b, off, none⟩ = some x → w'.cell? ⟨b, off, none⟩ = some x) : Rws sz w' v css := by
  obtain ⟨hx, a, cap, rfl, h1, h2, h3, h4⟩ := h
  refine ⟨hx, a, cap, rfl, h1, h2, h3, fun hn => ?_⟩
  obtain ⟨b, off, rfl, hc⟩ := h4 hn
  exact ⟨b, off, rfl, fun j cs hj i u hi => e b _ u hn rfl (hc j cs hj i u hi)⟩
theorem Rws.up {sz : Nat} {w w' : World} {v : Value} {css : List (List Value)} (h : Rws sz w v css) (hb : Below w.heap.size w w') : Rws sz w' v css :=
  h.moved fun b off x hn hv hc => (hb.cell (p := ⟨b, off, none⟩) (World.block_lt_of_cell? w ⟨b, off, none⟩ hc)).trans hc
theorem Rws.far {sz : Nat} {w w' : World} {v : Value} {css : List (List Value)} {r : Option Nat} (h : Rws sz w v css) (hg : w.grownBy w' r) (hne : ∀ b, v.ownBlock = some b → css ≠ [] → some b ≠ r) : Rws sz w' v css :=
  h.moved fun b off x hn hv hc => hg.cell hc (hne b hv hn)
theorem Rws.len {sz : Nat} {w : World} {v : Value} {css : List (List Value)} (h : Rws sz w v css) : ∃ a cap, v = .slice a css.length cap ∧ css.length ≤ cap ∧ cap ≤ maxLen := by
  obtain ⟨_, a, cap, rfl, h1, h2, _⟩ := h
  exact ⟨a, cap, rfl, h1, h2⟩
theorem Rws.at {sz : Nat} {w : World} {v : Value} {css : List (List Value)} (h : Rws sz w v css) (k : Nat) (hk : k < css.length) :
    ∃ b off cap, v = .slice (some ⟨b, off, none⟩) css.length cap ∧ css.length ≤ cap ∧ cap ≤ maxLen ∧ ∀ i u, (css.getD k [])[i]? = some u → w.cell? ⟨b, off + k * sz + i, none⟩ = some u := by
  obtain ⟨_, a, cap, rfl, h1, h2, _, h4⟩ := h
  obtain ⟨b, off, rfl, hc⟩ := h4 (by intro e; rw [e] at hk; simp at hk)
  exact ⟨b, off, cap, rfl, h1, h2, hc k _ (by simp [List.getD, hk])⟩
theorem Rws.nil (sz : Nat) (w : World) : Rws sz w (.slice none 0 0) [] := ⟨(fun cs h => by cases h), none, 0, rfl, Nat.le_refl _, Nat.zero_le _, fun _ => rfl, fun h => absurd rfl h⟩
theorem Rws.first {sz : Nat} {w : World} {a : Option Addr} {m cap : Nat} {css : List (List Value)} (h : Rws sz w (.slice a m cap) css) (n : Nat) (hn : n ≤ css.length) : Rws sz w (.slice a n cap) (css.take n) := by
  obtain ⟨hx, a', cap', e, h1, h2, h3, h4⟩ := h
  simp at e
  obtain ⟨rfl, rfl, rfl⟩ := e
  have hl : (css.take n).length = n := by rw [List.length_take]; omega
  refine ⟨fun cs hc => hx cs (List.mem_of_mem_take hc), a, cap, by rw [hl], by omega, h2, h3, fun hne => ?_⟩
  obtain ⟨b, off, rfl, hc⟩ := h4 (by intro e; rw [e] at hne; simp at hne)
  refine ⟨b, off, rfl, fun j cs hj => hc j cs ?_⟩
  rw [List.getElem?_take] at hj
  split at hj
  · exact hj
  · cases hj
theorem flat_at {sz : Nat} : ∀ (css : List (List Value)) (_ : ∀ cs ∈ css, cs.length = sz) (j : Nat) (cs : List Value) (_ : css[j]? = some cs) (i : Nat) (u : Value) (_ : cs[i]? = some u), css.flatten[j * sz + i]? = some u
  | [], _, j, cs, h, _, _, _ => by simp at h
  | c :: css, hx, 0, cs, h, i, u, hi => by
    simp at h
    subst h
    have : i < c.length := (List.getElem?_eq_some_iff.1 hi).1
    rw [List.flatten_cons, Nat.zero_mul, Nat.zero_add, List.getElem?_append_left this]
    exact hi
  | c :: css, hx, j + 1, cs, h, i, u, hi => by
    simp at h
    have e := flat_at css (fun d hd => hx d (by simp [hd])) j cs h i u hi
    have hc := hx c (by simp)
    rw [List.flatten_cons, List.getElem?_append_right (by rw [hc, Nat.add_mul]; omega), hc, Nat.add_mul]
    rw [show j * sz + 1 * sz + i - sz = j * sz + i by omega]
    exact e
theorem flat_rows {sz : Nat} (css : List (List Value)) (hx : ∀ cs ∈ css, cs.length = sz) : css.flatten.length = css.length * sz := by
  induction css with
  | nil => simp
  | cons c css ih =>
    rw [List.flatten_cons, List.length_append, ih (fun d hd => hx d (by simp [hd])), hx c (by simp), List.length_cons, Nat.add_mul]
    omega
def OwnR (w : World) (base : Nat) (e : TypeId) (sz : Nat) (v : Value) (css : List (List Value)) : Prop := (∀ cs ∈ css, cs.length = sz) ∧ w.ownsRow base e sz v css.length css.flatten
theorem OwnR.nil (w : World) (base : Nat) (e : TypeId) (sz : Nat) : OwnR w base e sz (.slice none 0 0) [] := ⟨fun cs h => (by cases h), World.ownsRow_nil _ _ _ _⟩
theorem OwnR.up {w w' : World} {base : Nat} {e : TypeId} {sz : Nat} {v : Value} {css : List (List Value)} (h : OwnR w base e sz v css) (hb : Below w.heap.size w w') : OwnR w' base e sz v css := ⟨h.1, own_up h.2 hb⟩
theorem OwnR.far {w w' : World} {base : Nat} {e : TypeId} {sz : Nat} {v : Value} {css : List (List Value)} {r : Option Nat} (h : OwnR w base e sz v css) (hg : w.grownBy w' r) (hne : v.ownBlock = none ∨ v.ownBlock ≠ r) : OwnR w' base e sz v css := ⟨h.1, World.ownsRow.kept h.2 hg hne⟩
theorem OwnR.mono {w : World} {base base' : Nat} {e : TypeId} {sz : Nat} {v : Value} {css : List (List Value)} (h : OwnR w base e sz v css) (hb : base' ≤ base) : OwnR w base' e sz v css := by
  obtain ⟨h0, h1, h2⟩ := h
  refine ⟨h0, h1, ?_⟩
  rcases h2 with h0 | ⟨g, cap, cur, rfl, hg, r⟩
  · exact .inl h0
  · exact .inr ⟨g, cap, cur, rfl, Nat.le_trans hb hg, r⟩
theorem Rws.own {w : World} {base : Nat} {e : TypeId} {sz : Nat} {v : Value} {css : List (List Value)} (h : OwnR w base e sz v css) : Rws sz w v css := by
  obtain ⟨hx, _, h2⟩ := h
  refine ⟨hx, ?_⟩
  rcases h2 with ⟨rfl, h0⟩ | ⟨g, cap, cur, rfl, hg, hh, hn, hm, hs, ht⟩
  · have e : css = [] := List.length_eq_zero_iff.1 h0
    subst e
    exact ⟨none, 0, rfl, by simp, by simp, fun _ => rfl, fun h => absurd rfl h⟩
  · refine ⟨some ⟨g, 0, none⟩, cap, rfl, hn, hm, (fun h => by cases h), fun hl => ⟨g, 0, rfl, fun j cs hj i u hi => ?_⟩⟩
    have e := flat_at css hx j cs hj i u hi
    rw [← ht, List.getElem?_take] at e
    split at e
    · simp only [World.cell?, hh, Nat.zero_add]
      simpa using e
    · cases e
theorem Rws.made {sz : Nat} (w : World) (e : TypeId) (css : List (List Value)) (hx : ∀ cs ∈ css, cs.length = sz) (hm : css.length ≤ maxLen) : Rws sz (w.alloc (.cells css.flatten.toArray e)) (.slice (some ⟨w.heap.size, 0, none⟩) css.length css.length) css := by
  refine ⟨hx, some ⟨w.heap.size, 0, none⟩, css.length, rfl, Nat.le_refl _, hm, (fun h => by cases h), fun _ => ⟨w.heap.size, 0, rfl, fun j cs hj i u hi => ?_⟩⟩
  have f := flat_at css hx j cs hj i u hi
  have := cells_new w css.flatten [] e (j * sz + i) u f
  rw [Addr.add_lit] at this
  simpa [Nat.add_assoc] using this
theorem wp_append_rows (w : World) {o : Oper} {a : Act} {K : Act → World → Prop} {Q : Exit → Act → World → Prop} (s x : Operand) (t e : TypeId) (z : Value) (sz bytes : Nat)
    (ho : o.op = .call { callee := .builtin .append, args := #[s, x], argTypes := #[t, t] }) (ht : Tryz.prog.underlying t = some (.slice e))
    (hinf : (Tryz.prog.info? e).map (fun i => (i.zero, i.size, i.bytes)) = some (some z, sz, bytes)) (hzs : z.cells.size = sz) (hsz0 : 0 < sz)
    (base : Nat) (v : Value) (css0 : List (List Value)) (hs : a.eval s = v) (hown : OwnR w base e sz v css0)
    (vx : Value) (cssx : List (List Value)) (hx : a.eval x = vx) (hR : Rws sz w vx cssx) (h1 : ∀ cs ∈ cssx, ∀ u ∈ cs, u.oneCell' = true) (hb : ((css0.length + cssx.length) + (css0.length + cssx.length) / 4 + 192) * bytes ≤ 281474976710656) (hm : css0.length + cssx.length ≤ maxLen) (hbase : base ≤ w.heap.size)
    (h : ∀ v' w', OwnR w' base e sz v' (css0 ++ cssx) → w.grownBy w' v.ownBlock → K (a.put o.dst v') w') : o.wp Tryz.prog a w K Q := by
  obtain ⟨i0, hi, hz0, hz1, hz2⟩ := info_some hinf
  obtain ⟨hxx, ax, cap, rfl, hc1, hc2, hn, h4⟩ := hR
  have fin : ∀ v' w', w'.ownsRow base e sz v' (css0.length + cssx.length) (css0.flatten ++ cssx.flatten) → w.grownBy w' v.ownBlock → K (a.put o.dst v') w' := by
    intro v' w' q1 q2
    refine h v' w' ⟨?_, ?_⟩ q2
    · intro cs hcs
      rcases List.mem_append.1 hcs with q | q
      · exact hown.1 cs q
      · exact hxx cs q
    · rw [List.length_append, List.flatten_append]
      exact q1
  have hone : ∀ u ∈ cssx.flatten, u.oneCell' = true := by
    intro u hu
    obtain ⟨cs, q1, q2⟩ := List.mem_flatten.1 hu
    exact h1 cs q1 u q2
  cases ax with
  | none =>
    obtain rfl := hn rfl
    have hl : cssx.length = 0 := by omega
    obtain rfl : cssx = [] := List.length_eq_zero_iff.1 hl
    have hrun := run_append_owned_none (P := Tryz.prog) (w := w) base t o.type e i0 sz ht hi v css0.length css0.flatten hown.2
    unfold Oper.wp
    simp [execOp, ho, resolve, invoke, builtin, hs, hx, hrun, Result.andThen]
    exact fin v w (by simpa using hown.2) (grown_refl w _)
  | some ad =>
    refine wp_append_own_wide w s x t ho base e i0 z sz bytes ht hi hz0 hz1 hz2 hzs hsz0 v css0.length _ hs hown.2 ad cssx.length cap cssx.flatten hx (flat_rows cssx hxx) ?_ hone hm hb hbase ?_
    · intro j u hj
      have hjl : j < cssx.length * sz := by
        have := (List.getElem?_eq_some_iff.1 hj).1
        rw [flat_rows cssx hxx] at this
        exact this
      have hne : cssx ≠ [] := by intro q; rw [q] at hjl; simp at hjl
      obtain ⟨b, off, e1, hcc⟩ := h4 hne
      simp at e1
      subst e1
      have hq : j / sz < cssx.length := (Nat.div_lt_iff_lt_mul hsz0).2 hjl
      have hr : j % sz < sz := Nat.mod_lt _ hsz0
      have hcs := List.getElem?_eq_getElem hq
      have hlen := hxx cssx[j / sz] (List.getElem_mem hq)
      have hu := flat_at cssx hxx (j / sz) _ hcs (j % sz) _ (List.getElem?_eq_getElem (by omega))
      have ej : j / sz * sz + j % sz = j := by rw [Nat.mul_comm]; exact Nat.div_add_mod j sz
      rw [ej, hj] at hu
      have := hcc (j / sz) _ hcs (j % sz) u (by rw [hu]; exact List.getElem?_eq_getElem (by omega))
      rw [Nat.add_assoc, ej] at this
      rw [Addr.add_lit]
      exact this
    · intro v' w' q1 q2 _
      exact fin v' w' q1 q2
theorem wpList_append_rows (w : World) {ops : Array Oper} {rest : List Oper} {o : Oper} {a : Act} {Q : Exit → Act → World → Prop} (hgd : Region.wanted o (yielded ops a.tmps) = true) (s x : Operand) (t e : TypeId) (z : Value) (sz bytes : Nat)
    (ho : o.op = .call { callee := .builtin .append, args := #[s, x], argTypes := #[t, t] }) (ht : Tryz.prog.underlying t = some (.slice e))
    (hinf : (Tryz.prog.info? e).map (fun i => (i.zero, i.size, i.bytes)) = some (some z, sz, bytes)) (hzs : z.cells.size = sz) (hsz0 : 0 < sz)
    (base : Nat) (v : Value) (css0 : List (List Value)) (hs : a.eval s = v) (hown : OwnR w base e sz v css0)
    (vx : Value) (cssx : List (List Value)) (hx : a.eval x = vx) (hR : Rws sz w vx cssx) (h1 : ∀ cs ∈ cssx, ∀ u ∈ cs, u.oneCell' = true) (hb : ((css0.length + cssx.length) + (css0.length + cssx.length) / 4 + 192) * bytes ≤ 281474976710656) (hm : css0.length + cssx.length ≤ maxLen) (hbase : base ≤ w.heap.size)
    (h : ∀ v' w', OwnR w' base e sz v' (css0 ++ cssx) → w.grownBy w' v.ownBlock → wpList Tryz.prog ops Q rest (a.put o.dst v') w') : wpList Tryz.prog ops Q (o :: rest) a w := by
  unfold wpList
  rw [if_pos hgd]
  exact .inl (wp_append_rows w s x t e z sz bytes ho ht hinf hzs hsz0 base v css0 hs hown vx cssx hx hR h1 hb hm hbase h)
theorem step_append_rows (w : World) {ops : Array Oper} {o : Oper} {a : Act} {K : Act → World → Prop} {Q : Exit → Act → World → Prop} {E : Prop} (hgd : o.guard = none) (s x : Operand) (t e : TypeId) (z : Value) (sz bytes : Nat)
    (ho : o.op = .call { callee := .builtin .append, args := #[s, x], argTypes := #[t, t] }) (ht : Tryz.prog.underlying t = some (.slice e))
    (hinf : (Tryz.prog.info? e).map (fun i => (i.zero, i.size, i.bytes)) = some (some z, sz, bytes)) (hzs : z.cells.size = sz) (hsz0 : 0 < sz)
    (base : Nat) (v : Value) (css0 : List (List Value)) (hs : a.eval s = v) (hown : OwnR w base e sz v css0)
    (vx : Value) (cssx : List (List Value)) (hx : a.eval x = vx) (hR : Rws sz w vx cssx) (h1 : ∀ cs ∈ cssx, ∀ u ∈ cs, u.oneCell' = true) (hb : ((css0.length + cssx.length) + (css0.length + cssx.length) / 4 + 192) * bytes ≤ 281474976710656) (hm : css0.length + cssx.length ≤ maxLen) (hbase : base ≤ w.heap.size)
    (h : ∀ v' w', OwnR w' base e sz v' (css0 ++ cssx) → w.grownBy w' v.ownBlock → K (a.put o.dst v') w') :
    if Region.wanted o (yielded ops a.tmps) = true then Oper.wp Tryz.prog o a w K Q else E := by
  have hw : Region.wanted o (yielded ops a.tmps) = true := by simp [Region.wanted, hgd]
  rw [if_pos hw]
  exact wp_append_rows w s x t e z sz bytes ho ht hinf hzs hsz0 base v css0 hs hown vx cssx hx hR h1 hb hm hbase h
theorem wpList_append_row (w0 : World) {ops : Array Oper} {rest : List Oper} {o : Oper} {a : Act} {Q : Exit → Act → World → Prop} (hgd : Region.wanted o (yielded ops a.tmps) = true) (s x : Operand) (t e : TypeId) (z : Value) (sz bytes : Nat)
    (ho : o.op = .call { callee := .builtin .append, args := #[s, x], argTypes := #[t, t] }) (ht : Tryz.prog.underlying t = some (.slice e))
    (hinf : (Tryz.prog.info? e).map (fun i => (i.zero, i.size, i.bytes)) = some (some z, sz, bytes)) (hzs : z.cells.size = sz) (hsz0 : 0 < sz)
    (base : Nat) (v : Value) (css0 : List (List Value)) (hs : a.eval s = v) (hown : OwnR w0 base e sz v css0)
    (cs : List Value) (csa : Array Value) (N : Nat) (hN : N = w0.heap.size) (hcsa : cs.toArray = csa) (hcl : cs.length = sz) (hx : a.eval x = .slice (some ⟨N, 0, none⟩) 1 1) (h1 : ∀ u ∈ cs, u.oneCell' = true) (hb : ((css0.length + 1) + (css0.length + 1) / 4 + 192) * bytes ≤ 281474976710656) (hm : css0.length + 1 ≤ maxLen) (hbase : base ≤ w0.heap.size)
    (h : ∀ v' w', OwnR w' base e sz v' (css0 ++ [cs]) → Below base w0 w' → wpList Tryz.prog ops Q rest (a.put o.dst v') w') : wpList Tryz.prog ops Q (o :: rest) a (w0.alloc (.cells csa e)) := by
  subst hcsa
  subst hN
  have hR := Rws.made (sz := sz) w0 e [cs] (by simp [hcl]) (by simp [maxLen])
  simp only [List.flatten_cons, List.flatten_nil, List.append_nil, List.length_cons, List.length_nil, Nat.zero_add] at hR
  refine wpList_append_rows _ hgd s x t e z sz bytes ho ht hinf hzs hsz0 base v css0 hs ⟨hown.1, World.ownsRow.alloc hown.2 _⟩ _ [cs] hx hR (by simpa using h1) (by simpa using hb) (by simpa using hm) (by simp; omega) ?_
  intro v' w' q1 q2
  exact h v' w' q1 (Below.grown ((Below.refl base w0).alloc hbase _) q2 (by simp; omega) (fun k hk => (hown.2.lt k hk).1))
theorem flat_set {sz : Nat} : ∀ (css : List (List Value)) (_ : ∀ cs ∈ css, cs.length = sz) (j : Nat) (_ : j < css.length) (i : Nat) (_ : i < sz) (u : Value), css.flatten.set (j * sz + i) u = (css.set j ((css.getD j []).set i u)).flatten
  | [], _, j, h, _, _, _ => by simp at h
  | c :: css, hx, 0, _, i, hi, u => by
    have hc := hx c (by simp)
    rw [List.flatten_cons, Nat.zero_mul, Nat.zero_add, List.set_append_left _ _ (by omega)]
    simp
  | c :: css, hx, j + 1, h, i, hi, u => by
    have hc := hx c (by simp)
    have e := flat_set css (fun d hd => hx d (by simp [hd])) j (by simpa using h) i hi u
    rw [List.flatten_cons, List.set_append_right _ _ (by rw [hc, Nat.add_mul]; omega), hc, Nat.add_mul]
    rw [show j * sz + 1 * sz + i - sz = j * sz + i by omega, e]
    simp [List.getD]
theorem OwnR.set {w : World} {base : Nat} {e : TypeId} {sz g n cap : Nat} {css : List (List Value)} (h : OwnR w base e sz (.slice (some ⟨g, 0, none⟩) n cap) css) (hn : css.length = n) (j : Nat) (hj : j < n) (i : Nat) (hi : i < sz) (u : Value) :
    OwnR (w.setCell ⟨g, j * sz + i, none⟩ u) base e sz (.slice (some ⟨g, 0, none⟩) n cap) (css.set j ((css.getD j []).set i u)) ∧ w.grownBy (w.setCell ⟨g, j * sz + i, none⟩ u) (some g) ∧ w.frozen? ⟨g, j * sz + i, none⟩ = false := by
  subst hn
  obtain ⟨h0, h1⟩ := h
  have st := h1.stored (j * sz + i) u
  refine ⟨⟨?_, ?_⟩, st.2, h1.frozenAt _⟩
  · intro cs hcs
    rcases List.mem_or_eq_of_mem_set hcs with q | q
    · exact h0 cs q
    · rw [q, List.length_set]
      exact h0 _ (by simp [List.getD, hj])
  · rw [List.length_set, ← flat_set css h0 j hj i hi u]
    exact st.1
end Go.Proofs.YtnchjlimkgbfpaaGreatDoor

namespace Go.Proofs.YtnchjlimkgbfpaaGreatDoor
open Go.RowKit
set_option linter.unusedVariables false
set_option maxRecDepth 20000
theorem blk_cell {w : World} {B : Nat} {cs : Array Value} {t : TypeId} {fr : Nat × Nat} (h : w.heap[B]? = some (.cells cs t fr)) (i : Nat) (x : Value) (hi : cs[i]? = some x) : w.cell? ⟨B, i, none⟩ = some x := by
  simp only [World.cell?, h]
  simpa using hi
theorem blk_frozen {w : World} {B : Nat} {cs : Array Value} {t : TypeId} (h : w.heap[B]? = some (.cells cs t)) (i : Nat) : w.frozen? ⟨B, i, none⟩ = false := by
  simp only [World.frozen?, h]
  simp
theorem blk_set {w : World} {B : Nat} {cs : Array Value} {t : TypeId} {fr : Nat × Nat} (h : w.heap[B]? = some (.cells cs t fr)) (i : Nat) (u : Value) : (w.setCell ⟨B, i, none⟩ u).heap[B]? = some (.cells (cs.setIfInBounds i u) t fr) := by
  simp only [World.setCell, Array.getElem?_modify, h]
  simp
theorem blk_lt {w : World} {B : Nat} {o : Obj} (h : w.heap[B]? = some o) : B < w.heap.size := (Array.getElem?_eq_some_iff.1 h).1
theorem blk_up {w w' : World} {B : Nat} {o : Obj} (h : w.heap[B]? = some o) (hb : Below w.heap.size w w') : w'.heap[B]? = some o := (hb.block B (blk_lt h)).trans h
theorem blk_grown {w w' : World} {B : Nat} {o : Obj} {r : Option Nat} (h : w.heap[B]? = some o) (hg : w.grownBy w' r) (hne : some B ≠ r) : w'.heap[B]? = some o := (hg.block B (blk_lt h) hne).trans h
theorem blk_new (w : World) (o : Obj) : (w.alloc o).heap[w.heap.size]? = some o := by
  show (w.heap.push o)[w.heap.size]? = _
  simp
theorem grown_set (w : World) (a : Addr) (u : Value) : w.grownBy (w.setCell a u) (some a.block) :=
  ⟨rfl, rfl, rfl, by simp [World.setCell], fun k hk hne => Below.heap_setCell w a u k (fun e => hne (by rw [e]))⟩
theorem grown_up {w w' : World} (h : Below w.heap.size w w') (r : Option Nat) : w.grownBy w' r := ⟨h.os, h.tape, h.output, h.size, fun k hk _ => h.block k hk⟩
theorem grown_trans {a b c : World} {r : Option Nat} (h : a.grownBy b r) (k : b.grownBy c r) : a.grownBy c r :=
  ⟨k.os.trans h.os, k.tape.trans h.tape, k.output.trans h.output, Nat.le_trans h.size k.size, fun i hi hne => (k.block i (Nat.lt_of_lt_of_le hi h.size) hne).trans (h.block i hi hne)⟩
theorem below_grown {B : Nat} {w w' : World} {r : Option Nat} (hg : w.grownBy w' r) (hB : B ≤ w.heap.size) (hr : ∀ k, r = some k → B ≤ k) : Below B w w' := (Below.refl B w).grown hg hB hr
def Apart (u v : Value) : Prop := u.ownBlock = none ∨ u.ownBlock ≠ v.ownBlock
theorem Apart.symm {u v : Value} (h : Apart u v) : Apart v u := by
  unfold Apart at *
  cases hv : v.ownBlock with
  | none => exact .inl rfl
  | some b =>
    refine .inr ?_
    rcases h with h | h
    · rw [h]; simp
    · rw [hv] at h; exact fun e => h e.symm
theorem own_blk_ne {w : World} {base : Nat} {e t : TypeId} {sz : Nat} {v : Value} {n : Nat} {xs : List Value} {B : Nat} {cs : Array Value} {fr : Nat × Nat} (h : w.ownsRow base e sz v n xs) (hb : w.heap[B]? = some (.cells cs t fr)) (hne : e ≠ t) : v.ownBlock = none ∨ v.ownBlock ≠ some B := by
  rcases h.2 with ⟨rfl, _⟩ | ⟨g, cap, cur, rfl, _, hg, _⟩
  · exact .inl rfl
  · refine .inr ?_
    simp only [Value.ownBlock]
    intro q
    injection q with q
    subst q
    rw [hg] at hb
    simp at hb
    exact hne hb.2.1
theorem own_own_ne {w : World} {b1 b2 : Nat} {e1 e2 : TypeId} {s1 s2 : Nat} {v1 v2 : Value} {n1 n2 : Nat} {x1 x2 : List Value} (h1 : w.ownsRow b1 e1 s1 v1 n1 x1) (h2 : w.ownsRow b2 e2 s2 v2 n2 x2) (hne : e1 ≠ e2) : v1.ownBlock = none ∨ v1.ownBlock ≠ v2.ownBlock := by
  rcases h2.2 with ⟨rfl, _⟩ | ⟨g, cap, cur, rfl, _, hg, _⟩
  · rcases h1.2 with ⟨rfl, _⟩ | ⟨g, cap, cur, rfl, _⟩
    · exact .inl rfl
    · exact .inr (by simp [Value.ownBlock])
  · exact own_blk_ne h1 hg hne
end Go.Proofs.YtnchjlimkgbfpaaGreatDoor

namespace Go.Proofs.YtnchjlimkgbfpaaGreatDoor
open Go.RowKit
set_option linter.unusedVariables false
set_option maxRecDepth 20000
structure UpW (w : World) where
  val : World
  up : Below w.heap.size w val
theorem wp_region_up {id : Nat} {Q : Exit → Act → World → Prop} {a : Act} {w : World} {l : List Oper} (hm : Tryz.prog.follows .mixedOrders = true) (hB : Region.lexB .any l.toArray = true)
    (h : wpQuiet Tryz.prog l.toArray (fun w' => ∃ p : UpW w, w' = p.val) (fun a' => ∀ w', (∃ p : UpW w, w' = p.val) → Q .normal a' w') l a) : (Code.region id l.toArray true).wp Tryz.prog Q a w :=
  wp_region_quiet (C := fun w' => ∃ p : UpW w, w' = p.val) hm hB ⟨⟨w.drew, (Below.refl _ w).drew⟩, rfl⟩ (by simpa using h)
theorem calls_up {f : FuncId} {args : Array Value} {w : World} {p : UpW w} {v : Value}
    (h : Calls Tryz.prog f args p.val fun e w' => e = .returned v ∧ Below p.val.heap.size p.val w') : Calls Tryz.prog f args p.val fun e w'' => e = .returned v ∧ ∃ q : UpW w, w'' = q.val :=
  h.mono fun _ w' ⟨he, hb⟩ => ⟨he, ⟨w', up_trans p.up hb⟩, rfl⟩
theorem cell_up {w : World} {a : Addr} {v : Value} (h : w.cell? a = some v) (p : UpW w) : p.val.cell? a = some v :=
  (p.up.cell (World.block_lt_of_cell? w a h)).trans h
instance (w : World) : Inhabited (UpW w) := ⟨⟨w, Below.refl _ _⟩⟩
end Go.Proofs.YtnchjlimkgbfpaaGreatDoor

namespace Go.Proofs.YtnchjlimkgbfpaaGreatDoor
open Go.RowKit
set_option linter.unusedVariables false
set_option maxRecDepth 20000
set_option linter.unusedSimpArgs false
theorem hid {p : Prop} (h : p) : Hid p := h
def Tab (w : World) : Prop := Lib.TabBelow Tryz.prog w.heap.size w "internal/strconv.uint64pow10" .u64 Lib.pow10Tab
theorem Tab.up {w w' : World} (h : Tab w) (hb : Below w.heap.size w w') : Tab w' := fun W hW => h W (hb.trans (hW.mono hb.size))
theorem Tab.low {w w' : World} (h : Tab w) (hb : Below w.heap.size w w') : Lib.TabBelow Tryz.prog w.heap.size w' "internal/strconv.uint64pow10" .u64 Lib.pow10Tab := fun W hW => h W (hb.trans hW)
theorem cells_digs : ∀ (k n : Nat), n ≤ k → 0 < n → Lib.byteCells (Lib.decDigits n) = (digs n).map (Value.int .u8)
  | 0, n, h, h0 => by omega
  | k + 1, n, h, h0 => by
    have one : ∀ m : Nat, m < 10 → Value.int .u8 ((UInt8.ofNat (48 + m)).toNat : Int) = Value.int .u8 (48 + (m : Int)) := by
      intro m hm
      have : (UInt8.ofNat (48 + m)).toNat = 48 + m := by
        rw [UInt8.toNat_ofNat']
        omega
      rw [this]
      congr 1
    rw [digs_pos h0]
    by_cases h1 : n < 10
    · rw [Lib.decDigits, dif_pos h1, show n / 10 = 0 by omega, digs_zero, show n % 10 = n by omega]
      simp only [Lib.byteCells, List.map_cons, List.map_nil, List.nil_append, one n h1]
    · rw [Lib.decDigits, dif_neg h1, Lib.byteCells, List.map_append]
      have ih := cells_digs k (n / 10) (by omega) (by omega)
      rw [Lib.byteCells] at ih
      rw [ih, List.map_append]
      simp only [List.map_cons, List.map_nil, one (n % 10) (by omega)]
theorem digs_oct (n : Nat) : ∀ x ∈ digs n, 0 ≤ x ∧ x ≤ 255 := fun x hx => by
  have := isDig_iff.1 (digs_dig n n (Nat.le_refl _) x hx)
  omega
theorem isID_any (id : Int) (w : World) : Calls Tryz.prog 72 #[.int .i64 id] w fun e w' => e = .returned (.bool (idOk id)) ∧ w' = w := by
  have H : Hid (idOk id = (decide (1 ≤ id) && decide (id ≤ 2147483647))) := rfl
  by_cases h1 : 1 ≤ id
  · by_cases h2 : id ≤ 2147483647
    · go_enter Tryz.func72, Tryz.ntmps72
      go_wp2
      go_ret
      exact ⟨ret_bool (by rw [H.out]; simp [h1, h2]), rfl⟩
    · go_enter Tryz.func72, Tryz.ntmps72
      go_wp2
      go_ret
      exact ⟨ret_bool (by rw [H.out]; simp [h1, h2]), rfl⟩
  · go_enter Tryz.func72, Tryz.ntmps72
    go_wp2
    go_ret
    exact ⟨ret_bool (by rw [H.out, decide_eq_false (by omega : ¬ 1 ≤ id)]; rfl), rfl⟩
theorem appendInt_any (id : Int) (h0 : 1 ≤ id) (h1 : id ≤ 2147483647) (k : Int) (hk : 0 ≤ k ∧ k ≤ 255) (w : World) (ht : Tab w) :
    Calls Tryz.prog 73 #[.slice (some ⟨w.heap.size, 0, none⟩) 1 1, .int .i64 id, .int .i64 10] (w.alloc (.cells #[.int .u8 k] 5)) fun e w' => ∃ v, e = .returned v ∧ Octs w' v (k :: digs id.toNat) ∧ Below w.heap.size w w' := by
  have hb : Below w.heap.size w (w.alloc (.cells #[.int .u8 k] 5)) := up_alloc w _
  have hown := World.ownsRow_lit (base := w.heap.size) (e := 5) (size := 1) w #[.int .u8 k] 1 (Nat.le_refl _) (by decide) rfl
  refine (Any.strconv_AppendInt_10 Tryz.laysAI w.heap.size 1 id (by omega) (by omega) _ _ _ hown hb.size (by decide) (ht.low hb)).mono ?_
  rintro e w' ⟨v, rfl, ho, hb2, _⟩
  refine ⟨v, rfl, ?_, hb.trans hb2⟩
  have e1 : Lib.itoa id = Lib.decDigits id.toNat := by unfold Lib.itoa; rw [if_neg (by omega)]
  rw [e1, cells_digs _ _ (Nat.le_refl _) (by omega)] at ho
  have e2 : 1 + (Lib.decDigits id.toNat).length = (k :: digs id.toNat).length := by
    have := congrArg List.length (cells_digs _ id.toNat (Nat.le_refl _) (by omega))
    simp only [Lib.byteCells, List.length_map] at this
    simp only [List.length_cons]
    omega
  rw [e2] at ho
  refine Octs.own (base := w.heap.size) ho ?_
  intro x hx
  rcases List.mem_cons.1 hx with rfl | hx
  · exact hk
  · exact digs_oct _ x hx
set_option maxHeartbeats 1000000 in
theorem name_any (k id : Int) (hk : 0 ≤ k ∧ k ≤ 255) (w : World) (ht : Tab w) : Calls Tryz.prog 35 #[.int .u8 k, .int .i64 id] w fun e w' => e = .returned (.tuple #[.string (strOfNums (nameN k id).1), .int .i64 (nameN k id).2]) ∧ Below w.heap.size w w' := by
  have HA := hid (fun h0 h1 => appendInt_any id h0 h1 k hk w ht)
  have HB : Hid (Below w.heap.size w w) := Below.refl _ _
  clear ht
  have hs : strOfNums [] = { data := #[] } := rfl
  by_cases h1 : kindOk k = true
  · by_cases h2 : idOk id = true
    · have e : nameN k id = (k :: digs id.toNat, 0) := by unfold nameN; rw [h1, h2]; rfl
      have h3 : 1 ≤ id ∧ id ≤ 2147483647 := by simpa [idOk] using h2
      have HA2 := hid (HA.out h3.1 h3.2)
      have HI := hid (isID_any id w)
      rw [h2] at HI
      have hk3 : k = 109 ∨ k = 108 ∨ k = 116 := by simpa [kindOk] using h1
      rw [e]
      clear h3 HA e h2 h1
      rcases hk3 with rfl | rfl | rfl
      all_goals
        go_enter Tryz.func35, Tryz.ntmps35
        go_wp2_with fail
        refine HI.out.mono ?_
        rintro e w' ⟨rfl, rfl⟩
        go_wp2_with fail
        refine HA2.out.mono ?_
        rintro e w' ⟨v, rfl, ho, hb⟩
        have HO := hid (fun (ty : TypeId) => run_convert_octs _ v w' ho)
        have hcv := run_convert_octs _ v w' ho
        go_wp2_with fail
        go_ret2
        exact ⟨rfl, hb⟩
    · have h2' : idOk id = false := by simpa using h2
      have e : nameN k id = ([], 4) := by unfold nameN; rw [h1, h2']; rfl
      have HI := hid (isID_any id w)
      rw [h2'] at HI
      have hk3 : k = 109 ∨ k = 108 ∨ k = 116 := by simpa [kindOk] using h1
      rw [e, hs]
      clear HA e h2 h1 h2'
      rcases hk3 with rfl | rfl | rfl
      all_goals
        go_enter Tryz.func35, Tryz.ntmps35
        go_wp2_with fail
        refine HI.out.mono ?_
        rintro e w' ⟨rfl, rfl⟩
        go_wp2_with fail
        go_ret2
        exact ⟨rfl, HB.out⟩
  · have h1' : kindOk k = false := by simpa using h1
    have e : nameN k id = ([], 22) := by unfold nameN; rw [h1']; rfl
    have hk3 : ¬ k = 109 ∧ ¬ k = 108 ∧ ¬ k = 116 := by simpa [kindOk] using h1'
    obtain ⟨q1, q2, q3⟩ := hk3
    have r1 : (k != 109) = true := by simpa using q1
    have r1b : (k = 109) = False := by simpa using q1
    have r2 : (k != 108) = true := by simpa using q2
    have r2b : (k = 108) = False := by simpa using q2
    have r3 : (k != 116) = true := by simpa using q3
    have r3b : (k = 116) = False := by simpa using q3
    rw [e, hs]
    clear HA e h1 h1'
    go_enter Tryz.func35, Tryz.ntmps35
    go_wp2_with fail
    go_ret2
    exact ⟨rfl, HB.out⟩
end Go.Proofs.YtnchjlimkgbfpaaGreatDoor

namespace Go.Proofs.YtnchjlimkgbfpaaGreatDoor
open Go.RowKit
set_option linter.unusedVariables false
set_option maxRecDepth 20000
set_option linter.unusedSimpArgs false
def u8s (l : List Int) : List UInt8 := l.map fun n => UInt8.ofNat n.toNat
theorem val_ge : ∀ (l : List Int) (a : Int), (∀ x ∈ l, isDig x = true) → 0 ≤ a → a ≤ valF l a
  | [], a, _, _ => Int.le_refl _
  | x :: l, a, h, h0 => by
    have hx := isDig_iff.1 (h x List.mem_cons_self)
    have := val_ge l (10 * a + (x - 48)) (fun y hy => h y (List.mem_cons_of_mem _ hy)) (by omega)
    have e : valF (x :: l) a = valF l (10 * a + (x - 48)) := rfl
    omega
theorem parse10 : ∀ (l : List Int) (a : Nat), (∀ x ∈ l, isDig x = true) → valF l (a : Int) ≤ 2147483647 → Lib.parseUint10 a (u8s l) = .ok (valF l (a : Int)).toNat
  | [], a, _, _ => by simp [u8s, Lib.parseUint10, valF]
  | x :: l, a, h, hb => by
    have hx := isDig_iff.1 (h x List.mem_cons_self)
    have hl : ∀ y ∈ l, isDig y = true := fun y hy => h y (List.mem_cons_of_mem _ hy)
    have e : valF (x :: l) (a : Int) = valF l ((a * 10 + (x.toNat - 48) : Nat) : Int) := by
      show valF l (10 * (a : Int) + (x - 48)) = _
      congr 1
      omega
    have hg := val_ge l ((a * 10 + (x.toNat - 48) : Nat) : Int) hl (by omega)
    have hc : (UInt8.ofNat x.toNat).toNat = x.toNat := by
      rw [UInt8.toNat_ofNat']
      omega
    rw [e] at hb ⊢
    show Lib.parseUint10 a (UInt8.ofNat x.toNat :: u8s l) = _
    unfold Lib.parseUint10
    rw [hc, if_pos (by omega), if_neg (by omega), if_neg (by omega)]
    exact parse10 l _ hl hb
theorem atoi_digs {id : Int} (h : idOk id = true) : Lib.atoiAll (u8s (digs id.toNat)) = .ok id := by
  have hi : 1 ≤ id ∧ id ≤ 2147483647 := by simpa [idOk] using h
  obtain ⟨x, l, e, h1, h2⟩ := digs_head _ id.toNat (Nat.le_refl _) (by omega)
  have hv : valF (digs id.toNat) 0 = id := by rw [val_digs id.toNat id.toNat (Nat.le_refl _)]; omega
  have hp := parse10 (digs id.toNat) 0 (digs_dig _ _ (Nat.le_refl _)) (by rw [show ((0 : Nat) : Int) = 0 from rfl, hv]; exact hi.2)
  rw [show ((0 : Nat) : Int) = 0 from rfl, hv] at hp
  rw [e] at hp ⊢
  have hc : (UInt8.ofNat x.toNat).toNat = x.toNat := by
    rw [UInt8.toNat_ofNat']
    omega
  show Lib.atoiAll (UInt8.ofNat x.toNat :: u8s l) = _
  unfold Lib.atoiAll
  simp only
  rw [hc, if_neg (by omega)]
  have hm : Lib.parseMag (UInt8.ofNat x.toNat :: u8s l) = .ok id.toNat := by
    unfold Lib.parseMag
    rw [if_neg (by simp)]
    exact hp
  rw [hm]
  simp only
  rw [if_neg (by omega), if_neg (by omega), if_neg (by omega)]
  congr 1
  omega
theorem parse_ok {k v : Int} {l : List Int} (h : Lib.atoiAll (u8s l) = .ok v) : parseN (k :: l) = if kindOk k = true ∧ idOk v = true ∧ digs v.toNat = l then some (k, v) else none := by
  by_cases c : kindOk k = true ∧ idOk v = true ∧ digs v.toNat = l
  · rw [if_pos c, ← c.2.2]
    exact parse_name c.1 c.2.1
  · rw [if_neg c]
    cases hp : parseN (k :: l) with
    | none => rfl
    | some q =>
      obtain ⟨k', id⟩ := q
      obtain ⟨h1, h2, h3⟩ := name_parse hp
      injection h3 with h3 h4
      subst h3
      subst h4
      rw [atoi_digs h2] at h
      injection h with h
      subst h
      exact absurd ⟨h1, h2, rfl⟩ c
theorem parse_no {k : Int} {l : List Int} (h : ∀ v, Lib.atoiAll (u8s l) ≠ .ok v) : parseN (k :: l) = none := by
  cases hp : parseN (k :: l) with
  | none => rfl
  | some q =>
    obtain ⟨k', id⟩ := q
    obtain ⟨h1, h2, h3⟩ := name_parse hp
    injection h3 with h3 h4
    subst h4
    exact absurd (atoi_digs h2) (h id)
def parR (o : Option (Int × Int)) : Value := match o with
  | none => .tuple #[.int .u8 0, .int .i64 0, .bool false]
  | some (k, n) => .tuple #[.int .u8 k, .int .i64 n, .bool true]
def ErrV (w : World) : Prop := ∃ t1 p1 t2 p2, w.cell? ⟨0, 0, none⟩ = some (.iface t1 p1) ∧ w.cell? ⟨1, 0, none⟩ = some (.iface t2 p2) ∧ 2 ≤ w.heap.size
theorem ErrV.up {w w' : World} (h : ErrV w) (hb : Below w.heap.size w w') : ErrV w' := by
  obtain ⟨t1, p1, t2, p2, h1, h2, h3⟩ := h
  exact ⟨t1, p1, t2, p2, by rw [hb.cell (by show 0 < _; omega)]; exact h1, by rw [hb.cell (by show 1 < _; omega)]; exact h2, Nat.le_trans h3 hb.size⟩
def EnvL (w : World) : Prop := Tab w ∧ ErrV w
theorem EnvL.up {w w' : World} (h : EnvL w) (hb : Below w.heap.size w w') : EnvL w' := ⟨h.1.up hb, h.2.up hb⟩
theorem atoi_ok (l : List Int) (v : Int) (hl : l.length ≤ 140737488355328) (h : Lib.atoiAll (u8s l) = .ok v) (w : World) : Calls Tryz.prog 86 #[.string (strOfNums l)] w fun e w' => e = .returned (.tuple #[.int .i64 v, .nilIface]) ∧ Below w.heap.size w w' := by
  refine (Any.strconv_Atoi_ok Tryz.laysAt (strOfNums l) (by rw [strOfNums_size]; omega) v h w).mono ?_
  rintro e w' ⟨rfl, hw⟩
  refine ⟨rfl, ?_⟩
  rcases hw with rfl | ⟨t, rfl⟩
  · exact Below.refl _ _
  · exact Lib.bytesWorld_below _ _ _
theorem atoi_no (l : List Int) (hl : l.length ≤ 140737488355328) (h : ∀ v, Lib.atoiAll (u8s l) ≠ .ok v) (w : World) (he : ErrV w) : Calls Tryz.prog 86 #[.string (strOfNums l)] w fun e w' => ∃ n N, e = .returned (.tuple #[.int .i64 n, .iface 247 (.pointer (some ⟨N, 0, none⟩))]) ∧ Below w.heap.size w w' := by
  obtain ⟨t1, p1, t2, p2, h1, h2, h3⟩ := he
  cases ha : Lib.atoiAll (u8s l) with
  | ok v => exact absurd ha (h v)
  | «syntax» =>
    refine (Any.strconv_Atoi_syntax Tryz.laysAt (strOfNums l) (by rw [strOfNums_size]; omega) ha (.iface t1 p1) w h1 (Or.inr ⟨t1, p1, rfl⟩)).mono ?_
    rintro e w' ⟨N, rfl, _, _, hb⟩
    exact ⟨_, N, rfl, hb⟩
  | range =>
    refine (Any.strconv_Atoi_range Tryz.laysAt (strOfNums l) (by rw [strOfNums_size]; omega) ha (.iface t2 p2) w h2 (Or.inr ⟨t2, p2, rfl⟩)).mono ?_
    rintro e w' ⟨N, rfl, _, _, hb⟩
    exact ⟨_, N, rfl, hb⟩
end Go.Proofs.YtnchjlimkgbfpaaGreatDoor
