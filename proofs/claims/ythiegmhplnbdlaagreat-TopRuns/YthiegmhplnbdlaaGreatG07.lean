/- Texts of layers 1 to 13, in this order. -/
import Derived.Test.YthiegmhplnbdlaaGreatG01
import Derived.Deep.DeepAppendWide
import Derived.Deep.AppendLies
import Derived.Deep.RegionHeld3
import Derived.Deep.OwnRows
import Derived.Test.YthiegmhplnbdlaaGreatG05
import Derived.Test.YthiegmhplnbdlaaGreatG06

namespace Go.Proofs.YthiegmhplnbdlaaGreat
open Go.RowKit
set_option linter.unusedVariables false
def Rws (sz : Nat) (w : World) (v : Value) (css : List (List Value)) : Prop :=
  (∀ cs ∈ css, cs.length = sz) ∧ ∃ a cap, v = .slice a css.length cap ∧ css.length ≤ cap ∧ cap ≤ maxLen ∧ (a = none → cap = 0) ∧
    (css ≠ [] → ∃ b off, a = some ⟨b, off, none⟩ ∧ ∀ j cs, css[j]? = some cs → ∀ i u, cs[i]? = some u → w.cell? ⟨b, off + j * sz + i, none⟩ = some u)
theorem Rws.moved {sz : Nat} {w w' : World} {v : Value} {css : List (List Value)} (h : Rws sz w v css) (e : ∀ b off x, css ≠ [] → v.ownBlock = some b → w.cell? ⟨b, off, none⟩ = some x → w'.cell? ⟨b, off, none⟩ = some x) : Rws sz w' v css := by
  obtain ⟨hx, a, cap, rfl, h1, h2, h3, h4⟩ := h
  refine ⟨hx, a, cap, rfl, h1, h2, h3, fun hn => ?_⟩
  obtain ⟨b, off, rfl, hc⟩ := h4 hn
  exact ⟨b, off, rfl, fun j cs hj i u hi => e b _ u hn rfl (hc j cs hj i u hi)⟩
theorem Rws.up {sz : Nat} {w w' : World} {v : Value} {css : List (List Value)} (h : Rws sz w v css) (hb : Below w.heap.size w w') : Rws sz w' v css :=
  h.moved fun b off x hn hv hc => (hb.cell (p := ⟨b, off, none⟩) (World.block_lt_of_cell? w ⟨b, off, none⟩ hc)).trans hc
theorem Rws.far {sz : Nat} {w w' : World} {v : Value} {css : List (List Value)} {r : Option Nat} (h : Rws sz w v css) (hg : w.grownBy w' r) (hne : ∀ b, v.ownBlock = some b → css ≠ [] → some b ≠ r) : Rws sz w' v css :=
  h.moved fun b off x hn hv hc => hg.cell hc (hne b hv hn)
theorem Rws.len {sz : Nat} {w : World} {v : Value} {css : List (List Value)} (h : Rws sz w v css) : ∃ a cap, v = .slice a css.length cap ∧ css.length ≤ cap ∧ cap ≤ maxLen := by
  obtain ⟨_, a, cap, rfl, h1, h2, _⟩ := h
  exact ⟨a, cap, rfl, h1, h2⟩
theorem Rws.at {sz : Nat} {w : World} {v : Value} {css : List (List Value)} (h : Rws sz w v css) (k : Nat) (hk : k < css.length) :
    ∃ b off cap, v = .slice (some ⟨b, off, none⟩) css.length cap ∧ css.length ≤ cap ∧ cap ≤ maxLen ∧ ∀ i u, (css.getD k [])[i]? = some u → w.cell? ⟨b, off + k * sz + i, none⟩ = some u := by
  obtain ⟨_, a, cap, rfl, h1, h2, _, h4⟩ := h
  obtain ⟨b, off, rfl, hc⟩ := h4 (by intro e; rw [e] at hk; simp at hk)
  exact ⟨b, off, cap, rfl, h1, h2, hc k _ (by simp [List.getD, hk])⟩
theorem Rws.nil (sz : Nat) (w : World) : Rws sz w (.slice none 0 0) [] := ⟨(fun cs h => by cases h), none, 0, rfl, Nat.le_refl _, Nat.zero_le _, fun _ => rfl, fun h => absurd rfl h⟩
theorem Rws.first {sz : Nat} {w : World} {a : Option Addr} {m cap : Nat} {css : List (List Value)} (h : Rws sz w (.slice a m cap) css) (n : Nat) (hn : n ≤ css.length) : Rws sz w (.slice a n cap) (css.take n) := by
  obtain ⟨hx, a', cap', e, h1, h2, h3, h4⟩ := h
  simp at e
  obtain ⟨rfl, rfl, rfl⟩ := e
  have hl : (css.take n).length = n := by rw [List.length_take]; omega
  refine ⟨fun cs hc => hx cs (List.mem_of_mem_take hc), a, cap, by rw [hl], by omega, h2, h3, fun hne => ?_⟩
  obtain ⟨b, off, rfl, hc⟩ := h4 (by intro e; rw [e] at hne; simp at hne)
  refine ⟨b, off, rfl, fun j cs hj => hc j cs ?_⟩
  rw [List.getElem?_take] at hj
  split at hj
  · exact hj
  · cases hj
theorem flat_at {sz : Nat} : ∀ (css : List (List Value)) (_ : ∀ cs ∈ css, cs.length = sz) (j : Nat) (cs : List Value) (_ : css[j]? = some cs) (i : Nat) (u : Value) (_ : cs[i]? = some u), css.flatten[j * sz + i]? = some u
  | [], _, j, cs, h, _, _, _ => by simp at h
  | c :: css, hx, 0, cs, h, i, u, hi => by
    simp at h
    subst h
    have : i < c.length := (List.getElem?_eq_some_iff.1 hi).1
    rw [List.flatten_cons, Nat.zero_mul, Nat.zero_add, List.getElem?_append_left this]
    exact hi
  | c :: css, hx, j + 1, cs, h, i, u, hi => by
    simp at h
    have e := flat_at css (fun d hd => hx d (by simp [hd])) j cs h i u hi
    have hc := hx c (by simp)
    rw [List.flatten_cons, List.getElem?_append_right (by rw [hc, Nat.add_mul]; omega), hc, Nat.add_mul]
    rw [show j * sz + 1 * sz + i - sz = j * sz + i by omega]
    exact e
theorem flat_rows {sz : Nat} (css : List (List Value)) (hx : ∀ cs ∈ css, cs.length = sz) : css.flatten.length = css.length * sz := by
  induction css with
  | nil => simp
  | cons c css ih =>
    rw [List.flatten_cons, List.length_append, ih (fun d hd => hx d (by simp [hd])), hx c (by simp), List.length_cons, Nat.add_mul]
    omega
def OwnR (w : World) (base : Nat) (e : TypeId) (sz : Nat) (v : Value) (css : List (List Value)) : Prop := (∀ cs ∈ css, cs.length = sz) ∧ w.ownsRow base e sz v css.length css.flatten
theorem OwnR.nil (w : World) (base : Nat) (e : TypeId) (sz : Nat) : OwnR w base e sz (.slice none 0 0) [] := ⟨fun cs h => (by cases h), World.ownsRow_nil _ _ _ _⟩
theorem OwnR.up {w w' : World} {base : Nat} {e : TypeId} {sz : Nat} {v : Value} {css : List (List Value)} (h : OwnR w base e sz v css) (hb : Below w.heap.size w w') : OwnR w' base e sz v css := ⟨h.1, own_up h.2 hb⟩
theorem OwnR.far {w w' : World} {base : Nat} {e : TypeId} {sz : Nat} {v : Value} {css : List (List Value)} {r : Option Nat} (h : OwnR w base e sz v css) (hg : w.grownBy w' r) (hne : v.ownBlock = none ∨ v.ownBlock ≠ r) : OwnR w' base e sz v css := ⟨h.1, World.ownsRow.kept h.2 hg hne⟩
theorem OwnR.mono {w : World} {base base' : Nat} {e : TypeId} {sz : Nat} {v : Value} {css : List (List Value)} (h : OwnR w base e sz v css) (hb : base' ≤ base) : OwnR w base' e sz v css := by
  obtain ⟨h0, h1, h2⟩ := h
  refine ⟨h0, h1, ?_⟩
  rcases h2 with h0 | ⟨g, cap, cur, rfl, hg, r⟩
  · exact .inl h0
  · exact .inr ⟨g, cap, cur, rfl, Nat.le_trans hb hg, r⟩
theorem Rws.own {w : World} {base : Nat} {e : TypeId} {sz : Nat} {v : Value} {css : List (List Value)} (h : OwnR w base e sz v css) : Rws sz w v css := by
  obtain ⟨hx, _, h2⟩ := h
  refine ⟨hx, ?_⟩
  rcases h2 with ⟨rfl, h0⟩ | ⟨g, cap, cur, rfl, hg, hh, hn, hm, hs, ht⟩
  · have e : css = [] := List.length_eq_zero_iff.1 h0
    subst e
    exact ⟨none, 0, rfl, by simp, by simp, fun _ => rfl, fun h => absurd rfl h⟩
  · refine ⟨some ⟨g, 0, none⟩, cap, rfl, hn, hm, (fun h => by cases h), fun hl => ⟨g, 0, rfl, fun j cs hj i u hi => ?_⟩⟩
    have e := flat_at css hx j cs hj i u hi
    rw [← ht, List.getElem?_take] at e
    split at e
    · simp only [World.cell?, hh, Nat.zero_add]
      simpa using e
    · cases e
theorem Rws.made {sz : Nat} (w : World) (e : TypeId) (css : List (List Value)) (hx : ∀ cs ∈ css, cs.length = sz) (hm : css.length ≤ maxLen) : Rws sz (w.alloc (.cells css.flatten.toArray e)) (.slice (some ⟨w.heap.size, 0, none⟩) css.length css.length) css := by
  refine ⟨hx, some ⟨w.heap.size, 0, none⟩, css.length, rfl, Nat.le_refl _, hm, (fun h => by cases h), fun _ => ⟨w.heap.size, 0, rfl, fun j cs hj i u hi => ?_⟩⟩
  have f := flat_at css hx j cs hj i u hi
  have := cells_new w css.flatten [] e (j * sz + i) u f
  rw [Addr.add_lit] at this
  simpa [Nat.add_assoc] using this
theorem wp_append_rows (w : World) {o : Oper} {a : Act} {K : Act → World → Prop} {Q : Exit → Act → World → Prop} (s x : Operand) (t e : TypeId) (z : Value) (sz bytes : Nat)
    (ho : o.op = .call { callee := .builtin .append, args := #[s, x], argTypes := #[t, t] }) (ht : Tryz.prog.underlying t = some (.slice e))
    (hinf : (Tryz.prog.info? e).map (fun i => (i.zero, i.size, i.bytes)) = some (some z, sz, bytes)) (hzs : z.cells.size = sz) (hsz0 : 0 < sz)
    (base : Nat) (v : Value) (css0 : List (List Value)) (hs : a.eval s = v) (hown : OwnR w base e sz v css0)
    (vx : Value) (cssx : List (List Value)) (hx : a.eval x = vx) (hR : Rws sz w vx cssx) (h1 : ∀ cs ∈ cssx, ∀ u ∈ cs, u.oneCell' = true) (hb : ((css0.length + cssx.length) + (css0.length + cssx.length) / 4 + 192) * bytes ≤ 281474976710656) (hm : css0.length + cssx.length ≤ maxLen) (hbase : base ≤ w.heap.size)
    (h : ∀ v' w', OwnR w' base e sz v' (css0 ++ cssx) → w.grownBy w' v.ownBlock → K (a.put o.dst v') w') : o.wp Tryz.prog a w K Q := by
  obtain ⟨i0, hi, hz0, hz1, hz2⟩ := info_some hinf
  obtain ⟨hxx, ax, cap, rfl, hc1, hc2, hn, h4⟩ := hR
  have fin : ∀ v' w', w'.ownsRow base e sz v' (css0.length + cssx.length) (css0.flatten ++ cssx.flatten) → w.grownBy w' v.ownBlock → K (a.put o.dst v') w' := by
    intro v' w' q1 q2
    refine h v' w' ⟨?_, ?_⟩ q2
    · intro cs hcs
      rcases List.mem_append.1 hcs with q | q
      · exact hown.1 cs q
      · exact hxx cs q
    · rw [List.length_append, List.flatten_append]
      exact q1
  have hone : ∀ u ∈ cssx.flatten, u.oneCell' = true := by
    intro u hu
    obtain ⟨cs, q1, q2⟩ := List.mem_flatten.1 hu
    exact h1 cs q1 u q2
  cases ax with
  | none =>
    obtain rfl := hn rfl
    have hl : cssx.length = 0 := by omega
    obtain rfl : cssx = [] := List.length_eq_zero_iff.1 hl
    have hrun := run_append_owned_none (P := Tryz.prog) (w := w) base t o.type e i0 sz ht hi v css0.length css0.flatten hown.2
    unfold Oper.wp
    simp [execOp, ho, resolve, invoke, builtin, hs, hx, hrun, Result.andThen]
    exact fin v w (by simpa using hown.2) (grown_refl w _)
  | some ad =>
    refine wp_append_own_wide w s x t ho base e i0 z sz bytes ht hi hz0 hz1 hz2 hzs hsz0 v css0.length _ hs hown.2 ad cssx.length cap cssx.flatten hx (flat_rows cssx hxx) ?_ hone hm hb hbase ?_
    · intro j u hj
      have hjl : j < cssx.length * sz := by
        have := (List.getElem?_eq_some_iff.1 hj).1
        rw [flat_rows cssx hxx] at this
        exact this
      have hne : cssx ≠ [] := by intro q; rw [q] at hjl; simp at hjl
      obtain ⟨b, off, e1, hcc⟩ := h4 hne
      simp at e1
      subst e1
      have hq : j / sz < cssx.length := (Nat.div_lt_iff_lt_mul hsz0).2 hjl
      have hr : j % sz < sz := Nat.mod_lt _ hsz0
      have hcs := List.getElem?_eq_getElem hq
      have hlen := hxx cssx[j / sz] (List.getElem_mem hq)
      have hu := flat_at cssx hxx (j / sz) _ hcs (j % sz) _ (List.getElem?_eq_getElem (by omega))
      have ej : j / sz * sz + j % sz = j := by rw [Nat.mul_comm]; exact Nat.div_add_mod j sz
      rw [ej, hj] at hu
      have := hcc (j / sz) _ hcs (j % sz) u (by rw [hu]; exact List.getElem?_eq_getElem (by omega))
      rw [Nat.add_assoc, ej] at this
      rw [Addr.add_lit]
      exact this
    · intro v' w' q1 q2 _
      exact fin v' w' q1 q2
theorem wpList_append_rows (w : World) {ops : Array Oper} {rest : List Oper} {o : Oper} {a : Act} {Q : Exit → Act → World → Prop} (hgd : Region.wanted o (yielded ops a.tmps) = true) (s x : Operand) (t e : TypeId) (z : Value) (sz bytes : Nat)
    (ho : o.op = .call { callee := .builtin .append, args := #[s, x], argTypes := #[t, t] }) (ht : Tryz.prog.underlying t = some (.slice e))
    (hinf : (Tryz.prog.info? e).map (fun i => (i.zero, i.size, i.bytes)) = some (some z, sz, bytes)) (hzs : z.cells.size = sz) (hsz0 : 0 < sz)
    (base : Nat) (v : Value) (css0 : List (List Value)) (hs : a.eval s = v) (hown : OwnR w base e sz v css0)
    (vx : Value) (cssx : List (List Value)) (hx : a.eval x = vx) (hR : Rws sz w vx cssx) (h1 : ∀ cs ∈ cssx, ∀ u ∈ cs, u.oneCell' = true) (hb : ((css0.length + cssx.length) + (css0.length + cssx.length) / 4 + 192) * bytes ≤ 281474976710656) (hm : css0.length + cssx.length ≤ maxLen) (hbase : base ≤ w.heap.size)
    (h : ∀ v' w', OwnR w' base e sz v' (css0 ++ cssx) → w.grownBy w' v.ownBlock → wpList Tryz.prog ops Q rest (a.put o.dst v') w') : wpList Tryz.prog ops Q (o :: rest) a w := by
  unfold wpList
  rw [if_pos hgd]
  exact .inl (wp_append_rows w s x t e z sz bytes ho ht hinf hzs hsz0 base v css0 hs hown vx cssx hx hR h1 hb hm hbase h)
theorem step_append_rows (w : World) {ops : Array Oper} {o : Oper} {a : Act} {K : Act → World → Prop} {Q : Exit → Act → World → Prop} {E : Prop} (hgd : o.guard = none) (s x : Operand) (t e : TypeId) (z : Value) (sz bytes : Nat)
    (ho : o.op = .call { callee := .builtin .append, args := #[s, x], argTypes := #[t, t] }) (ht : Tryz.prog.underlying t = some (.slice e))
    (hinf : (Tryz.prog.info? e).map (fun i => (i.zero, i.size, i.bytes)) = some (some z, sz, bytes)) (hzs : z.cells.size = sz) (hsz0 : 0 < sz)
    (base : Nat) (v : Value) (css0 : List (List Value)) (hs : a.eval s = v) (hown : OwnR w base e sz v css0)
    (vx : Value) (cssx : List (List Value)) (hx : a.eval x = vx) (hR : Rws sz w vx cssx) (h1 : ∀ cs ∈ cssx, ∀ u ∈ cs, u.oneCell' = true) (hb : ((css0.length + cssx.length) + (css0.length + cssx.length) / 4 + 192) * bytes ≤ 281474976710656) (hm : css0.length + cssx.length ≤ maxLen) (hbase : base ≤ w.heap.size)
    (h : ∀ v' w', OwnR w' base e sz v' (css0 ++ cssx) → w.grownBy w' v.ownBlock → K (a.put o.dst v') w') :
    if Region.wanted o (yielded ops a.tmps) = true then Oper.wp Tryz.prog o a w K Q else E := by
  have hw : Region.wanted o (yielded ops a.tmps) = true := by simp [Region.wanted, hgd]
  rw [if_pos hw]
  exact wp_append_rows w s x t e z sz bytes ho ht hinf hzs hsz0 base v css0 hs hown vx cssx hx hR h1 hb hm hbase h
theorem flat_set {sz : Nat} : ∀ (css : List (List Value)) (_ : ∀ cs ∈ css, cs.length = sz) (j : Nat) (_ : j < css.length) (i : Nat) (_ : i < sz) (u : Value), css.flatten.set (j * sz + i) u = (css.set j ((css.getD j []).set i u)).flatten
  | [], _, j, h, _, _, _ => by simp at h
  | c :: css, hx, 0, _, i, hi, u => by
    have hc := hx c (by simp)
    rw [List.flatten_cons, Nat.zero_mul, Nat.zero_add, List.set_append_left _ _ (by omega)]
    simp
  | c :: css, hx, j + 1, h, i, hi, u => by
    have hc := hx c (by simp)
    have e := flat_set css (fun d hd => hx d (by simp [hd])) j (by simpa using h) i hi u
    rw [List.flatten_cons, List.set_append_right _ _ (by rw [hc, Nat.add_mul]; omega), hc, Nat.add_mul]
    rw [show j * sz + 1 * sz + i - sz = j * sz + i by omega, e]
    simp [List.getD]
theorem OwnR.set {w : World} {base : Nat} {e : TypeId} {sz g n cap : Nat} {css : List (List Value)} (h : OwnR w base e sz (.slice (some ⟨g, 0, none⟩) n cap) css) (hn : css.length = n) (j : Nat) (hj : j < n) (i : Nat) (hi : i < sz) (u : Value) :
    OwnR (w.setCell ⟨g, j * sz + i, none⟩ u) base e sz (.slice (some ⟨g, 0, none⟩) n cap) (css.set j ((css.getD j []).set i u)) ∧ w.grownBy (w.setCell ⟨g, j * sz + i, none⟩ u) (some g) ∧ w.frozen? ⟨g, j * sz + i, none⟩ = false := by
  subst hn
  obtain ⟨h0, h1⟩ := h
  have st := h1.stored (j * sz + i) u
  refine ⟨⟨?_, ?_⟩, st.2, h1.frozenAt _⟩
  · intro cs hcs
    rcases List.mem_or_eq_of_mem_set hcs with q | q
    · exact h0 cs q
    · rw [q, List.length_set]
      exact h0 _ (by simp [List.getD, hj])
  · rw [List.length_set, ← flat_set css h0 j hj i hi u]
    exact st.1
end Go.Proofs.YthiegmhplnbdlaaGreat

namespace Go.Proofs.YthiegmhplnbdlaaGreat
open Go.RowKit
set_option linter.unusedVariables false
structure En where
  key : ByteArray
  seq : Int
  kind : Int
  val : ByteArray
def enV (a : En) : Value := .agg #[.string a.key, .int .i64 a.seq, .int .i64 a.kind, .string a.val]
def enRow (a : En) : List Value := [.string a.key, .int .i64 a.seq, .int .i64 a.kind, .string a.val]
def enObj (a : En) : Obj := .cells #[.string a.key, .int .i64 a.seq, .int .i64 a.kind, .string a.val] 50
def beforeE (a b : En) : Bool := Op.bytesLess a.key.toList b.key.toList || ((a.key.toList == b.key.toList) && decide (b.seq < a.seq))
def mayE (a : En) : Bool := decide (1 ≤ (a.key.size : Int) ∧ (a.key.size : Int) ≤ 96 ∧ 1 ≤ a.seq ∧ a.seq ≤ 1099511627776 ∧ (a.kind = 1 ∨ a.kind = 2) ∧ (a.val.size : Int) ≤ 512 ∧ (a.kind = 1 ∨ a.val.toList = []))
end Go.Proofs.YthiegmhplnbdlaaGreat

namespace Go.Proofs.YthiegmhplnbdlaaGreat
open Go.RowKit SumPlain
set_option linter.unusedVariables false
theorem getRet_inj {l : List Int} {a b c : Int} (h : getRet l = .tuple #[.int .u64 a, .int .i64 b, .int .i64 c]) : getOf l = (a, b, c) := by
  unfold getRet at h
  simp at h
  obtain ⟨h1, h2, h3⟩ := h
  rw [← h1, ← h2, ← h3]
theorem getOf_octets (n : Int) (h0 : 0 ≤ n) (h1 : n ≤ 18446744073709551615) (r : List Int) : getOf (octets n ++ r) = (n, ((octets n).length : Int), 0) := by
  rw [getRet_inj (getOf_back n h0 h1 r), ← (octets_form n h0 h1).size]
def comL : List Int → List Int → Nat
  | x :: l, y :: r => if x = y then comL l r + 1 else 0
  | _, _ => 0
theorem comL_le : ∀ (l r : List Int), comL l r ≤ l.length ∧ comL l r ≤ r.length
  | [], r => by unfold comL; simp
  | x :: l, [] => by unfold comL; simp
  | x :: l, y :: r => by
    unfold comL
    have := comL_le l r
    split
    · simp; omega
    · simp
theorem comL_take : ∀ (l r : List Int), l.take (comL l r) = r.take (comL l r)
  | [], r => by unfold comL; simp
  | x :: l, [] => by unfold comL; simp
  | x :: l, y :: r => by
    unfold comL
    split
    · rename_i h
      simp [h, comL_take l r]
    · simp
def shareN (i : Nat) (prev : List Int) (x : En) : Nat := if i % 4 = 0 then 0 else comL prev (nums x.key)
theorem share_le (i : Nat) (prev : List Int) (x : En) : shareN i prev x ≤ prev.length ∧ shareN i prev x ≤ (nums x.key).length ∧ prev.take (shareN i prev x) = (nums x.key).take (shareN i prev x) := by
  unfold shareN
  split
  · simp
  · exact ⟨(comL_le _ _).1, (comL_le _ _).2, comL_take _ _⟩
def entO (n : Nat) (x : En) : List Int :=
  octets (n : Int) ++ (octets (((nums x.key).length - n : Nat) : Int) ++ (octets x.seq ++ (octets ((nums x.val).length : Int) ++ (x.kind :: ((nums x.key).drop n ++ nums x.val)))))
def bodyO : Nat → List Int → List En → List Int
  | _, _, [] => []
  | i, prev, x :: r => entO (shareN i prev x) x ++ bodyO (i + 1) (nums x.key) r
def tailO : Nat → List Int → Nat → List En → List Int
  | _, _, _, [] => []
  | i, prev, off, x :: r => (if i % 4 = 0 then [((off / 256 % 256 : Nat) : Int), ((off % 256 : Nat) : Int)] else []) ++ tailO (i + 1) (nums x.key) (off + (entO (shareN i prev x) x).length) r
def blockO (l : List En) : List Int := bodyO 0 [] l ++ (tailO 0 [] 0 l ++ [(((tailO 0 [] 0 l).length / 2 % 256 : Nat) : Int)])
def aheadE (p : Option En) (x : En) : Bool := match p with | none => true | some y => beforeE y x
def ordE : Option En → List En → Int
  | _, [] => 0
  | p, x :: r => if mayE x then (if aheadE p x then ordE (some x) r else 81) else 1
def chkB (l : List En) : Int := if l.length < 1 ∨ 64 < l.length then 3 else ordE none l
def encB (l : List En) : List Int × Int := if chkB l = 0 then (guardOf (blockO l), 0) else ([], chkB l)
def numQ (most code : Int) (l : List Int) : Except Int (Int × List Int) :=
  if (getOf l).2.2 = 0 then (if most < (getOf l).1 then .error code else .ok ((getOf l).1, l.drop (getOf l).2.1.toNat)) else .error (getOf l).2.2
theorem numQ_back (most code n : Int) (h0 : 0 ≤ n) (h1 : n ≤ most) (hm : most ≤ 1099511627776) (r : List Int) : numQ most code (octets n ++ r) = .ok (n, r) := by
  unfold numQ
  rw [getOf_octets n h0 (by omega)]
  simp only [if_true]
  rw [if_neg (by omega), Int.toNat_natCast, List.drop_left]
def entP (prev l : List Int) : Option (En × List Int × List Int) :=
  match numQ 65536 21 l with
  | .error _ => none
  | .ok (n, l1) => match numQ 65536 21 l1 with
    | .error _ => none
    | .ok (k, l2) => match numQ 1099511627776 21 l2 with
      | .error _ => none
      | .ok (s, l3) => match numQ 65536 21 l3 with
        | .error _ => none
        | .ok (v, l4) => match l4 with
          | [] => none
          | d :: l5 => if (l5.length : Int) < k ∨ ((l5.length : Int) - k) < v ∨ (prev.length : Int) < n then none else
            some (⟨strOfNums (prev.take n.toNat ++ l5.take k.toNat), s, d, strOfNums ((l5.drop k.toNat).take v.toNat)⟩, prev.take n.toNat ++ l5.take k.toNat, (l5.drop k.toNat).drop v.toNat)
def toldP : Nat → List Int → List En → List Int → List En
  | 0, _, out, _ => out
  | f + 1, prev, out, l => if l = [] ∨ 64 < out.length then out else
    match entP prev l with
    | none => []
    | some (x, key, r) => toldP f key (out ++ [x]) r
def toldB (b : List Int) : List En :=
  if b.length < 1 then [] else
    if (b.length : Int) - 1 - 2 * b.getD (b.length - 1) 0 < 0 then [] else
      toldP (b.length + 1) [] [] (b.take ((b.length : Int) - 1 - 2 * b.getD (b.length - 1) 0).toNat)
def decB (b : List Int) : List En × Int :=
  if (bareOf b).2 = 0 then (if encB (toldB (bareOf b).1) = (b, 0) then (toldB (bareOf b).1, 0) else ([], 21)) else ([], (bareOf b).2)
theorem mayE_le {x : En} (h : mayE x = true) : 1 ≤ (nums x.key).length ∧ (nums x.key).length ≤ 96 ∧ 1 ≤ x.seq ∧ x.seq ≤ 1099511627776 ∧ 1 ≤ x.kind ∧ x.kind ≤ 2 ∧ (nums x.val).length ≤ 512 := by
  unfold mayE at h
  have h' := of_decide_eq_true h
  rw [nums_length, nums_length]
  omega
theorem entP_back (i : Nat) (prev : List Int) (x : En) (h : mayE x = true) (r : List Int) : entP prev (entO (shareN i prev x) x ++ r) = some (x, nums x.key, r) := by
  obtain ⟨k1, k2, s1, s2, d1, d2, v1⟩ := mayE_le h
  obtain ⟨n1, n2, n3⟩ := share_le i prev x
  generalize shareN i prev x = n at *
  unfold entP entO
  rw [List.append_assoc, numQ_back _ _ _ (by omega) (by omega) (by omega)]
  simp only
  rw [List.append_assoc, numQ_back _ _ _ (by omega) (by omega) (by omega)]
  simp only
  rw [List.append_assoc, numQ_back _ _ _ (by omega) (by omega) (by omega)]
  simp only
  rw [List.append_assoc, numQ_back _ _ _ (by omega) (by omega) (by omega)]
  simp only [List.cons_append]
  have hl : (((nums x.key).drop n ++ nums x.val) ++ r).length = (nums x.key).length - n + (nums x.val).length + r.length := by simp; omega
  rw [if_neg (by rw [hl]; omega)]
  have e1 : (((nums x.key).drop n ++ nums x.val) ++ r).take (((nums x.key).length - n : Nat) : Int).toNat = (nums x.key).drop n := by
    rw [Int.toNat_natCast, List.append_assoc, List.take_left' (by simp)]
  have e2 : (((nums x.key).drop n ++ nums x.val) ++ r).drop (((nums x.key).length - n : Nat) : Int).toNat = nums x.val ++ r := by
    rw [Int.toNat_natCast, List.append_assoc, List.drop_left' (by simp)]
  rw [e1, e2]
  have e3 : prev.take (n : Int).toNat ++ (nums x.key).drop n = nums x.key := by
    rw [Int.toNat_natCast, n3, List.take_append_drop]
  rw [e3, Int.toNat_natCast, List.take_left, List.drop_left, str_nums, str_nums]
theorem entO_pos (n : Nat) (x : En) : 1 ≤ (entO n x).length := by
  unfold entO
  simp
  omega
theorem toldP_back : ∀ (l : List En) (i : Nat) (prev : List Int) (out : List En) (f : Nat), (∀ x ∈ l, mayE x = true) → out.length + l.length ≤ 64 → l.length < f → toldP f prev out (bodyO i prev l) = out ++ l
  | [], i, prev, out, f, _, _, hf => by
    cases f with
    | zero => omega
    | succ f => unfold toldP bodyO; simp
  | x :: r, i, prev, out, f, hm, hl, hf => by
    cases f with
    | zero => omega
    | succ f =>
      unfold toldP bodyO
      have hp := entO_pos (shareN i prev x) x
      rw [if_neg (by
        intro h
        rcases h with h | h
        · have := congrArg List.length h
          rw [List.length_append, List.length_nil] at this
          omega
        · simp at hl; omega)]
      rw [entP_back i prev x (hm x (by simp))]
      simp only
      rw [toldP_back r (i + 1) (nums x.key) (out ++ [x]) f (fun y hy => hm y (by simp [hy])) (by simp at hl ⊢; omega) (by simp at hf; omega)]
      simp
theorem ordE_may : ∀ (l : List En) (p : Option En), ordE p l = 0 → ∀ x ∈ l, mayE x = true
  | [], _, _, x, hx => by cases hx
  | y :: r, p, h, x, hx => by
    unfold ordE at h
    by_cases hm : mayE y = true
    · rw [if_pos hm] at h
      by_cases hb : aheadE p y = true
      · rw [if_pos hb] at h
        rcases List.mem_cons.1 hx with rfl | hx
        · exact hm
        · exact ordE_may r (some y) h x hx
      · rw [if_neg hb] at h; cases h
    · rw [if_neg hm] at h; cases h
theorem chkB_may {l : List En} (h : chkB l = 0) : 1 ≤ l.length ∧ l.length ≤ 64 ∧ ∀ x ∈ l, mayE x = true := by
  unfold chkB at h
  by_cases hc : l.length < 1 ∨ 64 < l.length
  · rw [if_pos hc] at h; cases h
  · rw [if_neg hc] at h
    exact ⟨by omega, by omega, ordE_may l none h⟩
theorem tailO_len : ∀ (l : List En) (i : Nat) (prev : List Int) (off : Nat), (tailO i prev off l).length % 2 = 0 ∧ (tailO i prev off l).length ≤ 2 * l.length
  | [], _, _, _ => by unfold tailO; simp
  | x :: r, i, prev, off => by
    unfold tailO
    have := tailO_len r (i + 1) (nums x.key) (off + (entO (shareN i prev x) x).length)
    split
    · simp; omega
    · simp; omega
theorem bodyO_len : ∀ (l : List En) (i : Nat) (prev : List Int), l.length ≤ (bodyO i prev l).length
  | [], _, _ => by simp
  | x :: r, i, prev => by
    unfold bodyO
    have := bodyO_len r (i + 1) (nums x.key)
    have := entO_pos (shareN i prev x) x
    simp
    omega
theorem told_block {l : List En} (h : chkB l = 0) : toldB (blockO l) = l := by
  obtain ⟨l1, l2, hm⟩ := chkB_may h
  obtain ⟨t1, t2⟩ := tailO_len l 0 [] 0
  have hb := bodyO_len l 0 []
  unfold toldB blockO
  generalize hB : bodyO 0 [] l = B at *
  generalize tailO 0 [] 0 l = T at *
  have hlen : (B ++ (T ++ [((T.length / 2 % 256 : Nat) : Int)])).length = B.length + T.length + 1 := by simp; omega
  have hlast : (B ++ (T ++ [((T.length / 2 % 256 : Nat) : Int)])).getD ((B ++ (T ++ [((T.length / 2 % 256 : Nat) : Int)])).length - 1) 0 = ((T.length / 2 % 256 : Nat) : Int) := by
    rw [hlen, ← List.append_assoc, List.getD_eq_getElem?_getD, List.getElem?_append_right (by simp)]
    simp
  rw [hlast, hlen, if_neg (by omega)]
  have hend : ((B.length + T.length + 1 : Nat) : Int) - 1 - 2 * ((T.length / 2 % 256 : Nat) : Int) = (B.length : Int) := by omega
  rw [hend, if_neg (by omega), Int.toNat_natCast, List.take_left, ← hB]
  rw [toldP_back l 0 [] [] _ hm (by simpa using l2) (by rw [hB]; omega)]
  rfl
theorem dec_encB {l : List En} (h : chkB l = 0) : decB (encB l).1 = (l, 0) := by
  have e : encB l = (guardOf (blockO l), 0) := by unfold encB; rw [if_pos h]
  rw [e]
  unfold decB
  have hg : bareOf (guardOf (blockO l)) = (blockO l, 0) := bare_guard _
  simp only [hg, told_block h, e]
  simp
theorem enc_decB {b : List Int} (h : (decB b).2 = 0) : encB (decB b).1 = (b, 0) := by
  unfold decB at *
  by_cases h1 : (bareOf b).2 = 0
  · rw [if_pos h1] at h ⊢
    by_cases h2 : encB (toldB (bareOf b).1) = (b, 0)
    · rw [if_pos h2]; exact h2
    · rw [if_neg h2] at h; cases h
  · rw [if_neg h1] at h
    exact absurd h h1
theorem decB_bad {b : List Int} (h : (decB b).2 ≠ 0) : (decB b).1 = [] := by
  unfold decB at *
  by_cases h1 : (bareOf b).2 = 0
  · rw [if_pos h1] at h ⊢
    by_cases h2 : encB (toldB (bareOf b).1) = (b, 0)
    · rw [if_pos h2] at h; exact absurd rfl h
    · rw [if_neg h2]
  · rw [if_neg h1]
end Go.Proofs.YthiegmhplnbdlaaGreat
