/- The texts Q6, Q7, Q8, Q9, QA, QB, QC, in this order. -/
import Derived.Test.YtnchjlimkgbfpaaDoorG08

/- slices.Insert of one name: in place, or in a new block. -/
namespace Go.Proofs.YtnchjlimkgbfpaaDoor
open Go.RowKit
set_option linter.unusedVariables false

/-- Where a slice lies behind an append: where it lay, or in a new block. -/
def Near (w : World) (v v' : Value) : Prop := v'.ownBlock = v.ownBlock ∨ ∀ b, v'.ownBlock = some b → w.heap.size ≤ b

theorem Near.apart {w : World} {v v' u : Value} {base : Nat} {e : TypeId} {sz n : Nat} {xs : List Value} (h : Near w v v') (ha : Apart v u) (hu : w.ownsRow base e sz u n xs) : Apart v' u := by
  unfold Apart at *
  rcases h with h | h
  · rw [h]
    rcases ha with q | q
    · exact .inl q
    · exact .inr q
  · cases hv : v'.ownBlock with
    | none => exact .inl rfl
    | some b =>
      refine .inr ?_
      intro q
      have h1 := h b hv
      have h2 := (hu.lt b q.symm).2
      omega

/-- append of rows onto what is owned, and where it lies then. -/
theorem run_append_near (w : World) (t ty e : TypeId) (z : Value) (sz bytes : Nat) (ht : Tryd.prog.underlying t = some (.slice e))
    (hinf : (Tryd.prog.info? e).map (fun i => (i.zero, i.size, i.bytes)) = some (some z, sz, bytes)) (hzs : z.cells.size = sz) (hsz0 : 0 < sz)
    (base : Nat) (v : Value) (css0 : List (List Value)) (hown : OwnR w base e sz v css0) (ad : Addr) (m c : Nat) (cssx : List (List Value)) (hxx : ∀ cs ∈ cssx, cs.length = sz) (hm0 : cssx.length = m)
    (hnews : ∀ j u, cssx.flatten[j]? = some u → w.cell? (ad.add j) = some u) (h1 : ∀ cs ∈ cssx, ∀ u ∈ cs, u.oneCell' = true) (hb : ((css0.length + m) + (css0.length + m) / 4 + 192) * bytes ≤ 281474976710656) (hm : css0.length + m ≤ maxLen) (hbase : base ≤ w.heap.size) :
    ∃ v' w', (Builtin.append_ #[t, t] ty #[v, .slice (some ad) m c]).run Tryd.prog w = .ok v' w' ∧ OwnR w' base e sz v' (css0 ++ cssx) ∧ w.grownBy w' v.ownBlock ∧ Near w v v' := by
  obtain ⟨i0, hi, hz0, hz1, hz2⟩ := info_some hinf
  have hl : cssx.flatten.length = m * sz := by rw [flat_rows cssx hxx, hm0]
  have hone : ∀ u ∈ cssx.flatten, u.oneCell' = true := by
    intro u hu
    obtain ⟨cs, q1, q2⟩ := List.mem_flatten.1 hu
    exact h1 cs q1 u q2
  obtain ⟨v', w', hr, h2, h3, h4⟩ := run_append_own_wide (P := Tryd.prog) w base t ty e i0 z sz bytes ht hi hz0 hz1 hz2 hzs hsz0 v css0.length css0.flatten hown.2 ad m c cssx.flatten hl hnews hone hm hb hbase
  refine ⟨v', w', hr, ⟨?_, ?_⟩, h3, ?_⟩
  · intro cs hcs
    rcases List.mem_append.1 hcs with q | q
    · exact hown.1 cs q
    · exact hxx cs q
  · rw [List.length_append, List.flatten_append, hm0]
    exact h2
  · rcases hown.2.2 with ⟨rfl, hn⟩ | ⟨g, cap, cur, rfl, hbg, hg, hnc, hcm, hcs, htk⟩
    · by_cases hm' : m = 0
      · have := h4.2 ⟨rfl, hm'⟩
        rw [this]
        exact .inl rfl
      · have hr2 := run_append_nil (P := Tryd.prog) w t ty e i0 z ht hi hz0 ad m c cssx.flatten (by rw [hz1]; exact hl) hnews (by omega) (by unfold maxLen at hm; omega) (by
          rw [hz2]
          exact Nat.le_trans (Nat.mul_le_mul_right _ (by omega)) hb)
        rw [hr2] at hr
        injection hr with e1 _
        rw [← e1]
        refine .inr fun b hb => ?_
        simp [Value.ownBlock] at hb
        omega
    · by_cases hroom : css0.length + m ≤ cap
      · have hfit : css0.length * i0.size + cssx.flatten.length ≤ cur.size := by rw [hl, hcs, hz1, ← Nat.add_mul]; exact Nat.mul_le_mul_right _ hroom
        have hr2 := run_append_room (P := Tryd.prog) w t ty e i0 ht hi g css0.length cap cur hg ad m c cssx.flatten (by rw [hz1]; exact hl) hnews hone hroom hfit
        rw [hr2] at hr
        injection hr with e1 _
        rw [← e1]
        exact .inl rfl
      · have holds : ∀ j u, css0.flatten[j]? = some u → w.cell? ((⟨g, 0, none⟩ : Addr).add j) = some u := hown.2.cells (g := g) rfl
        have hr2 := run_append_grow (P := Tryd.prog) w t ty e i0 z ht hi hz0 ⟨g, 0, none⟩ css0.length cap css0.flatten (by rw [hz1]; exact hown.2.1) holds ad m c cssx.flatten (by rw [hz1]; exact hl) hnews (by omega) (by unfold maxLen at hm; omega) (by rw [hz2]; exact growslice_fits_wide (by omega) hb)
        rw [hr2] at hr
        injection hr with e1 _
        rw [← e1]
        refine .inr fun b hb => ?_
        simp [Value.ownBlock] at hb
        omega

/-- An operation whose run is known. -/
theorem wpList_known (w : World) {ops : Array Oper} {rest : List Oper} {o : Oper} {a : Act} {Q : Exit → Act → World → Prop} (hgd : o.guard = none) {v' : Value} {w' : World} (hr : (execOp a.eval o).run Tryd.prog w = .ok (.value v') w')
    (h : wpList Tryd.prog ops Q rest (a.put o.dst v') w') : wpList Tryd.prog ops Q (o :: rest) a w := by
  refine wpList_plain hgd fun K hK => ?_
  unfold Oper.wp
  rw [hr]
  exact hK _ _ h

theorem step_known {ops : Array Oper} {o : Oper} {a : Act} {w : World} {K : Act → World → Prop} {Q : Exit → Act → World → Prop} {E : Prop} (hg : o.guard = none) {v' : Value} {w' : World} (hr : (execOp a.eval o).run Tryd.prog w = .ok (.value v') w') (hK : K (a.put o.dst v') w') :
    if Region.wanted o (yielded ops a.tmps) = true then Oper.wp Tryd.prog o a w K Q else E := by
  have hw : Region.wanted o (yielded ops a.tmps) = true := by simp [Region.wanted, hg]
  rw [if_pos hw]
  unfold Oper.wp
  rw [hr]
  exact hK

theorem exec_copy {o : Oper} {a : Act} {w w' : World} {d s : Operand} {t t' : TypeId} (ho : o.op = .call { callee := .builtin .copy, args := #[d, s], argTypes := #[t, t'] }) {v u v' : Value} (hd : a.eval d = v) (hs : a.eval s = u)
    (hr : (Builtin.copy_ #[t, t'] o.type #[v, u]).run Tryd.prog w = .ok v' w') : (execOp a.eval o).run Tryd.prog w = .ok (.value v') w' := by
  simp only [execOp, ho, resolve, invoke, builtin, Sem.run_bind, Sem.run_pure, Result.andThen_ok, List.map_toArray, List.map_cons, List.map_nil, hd, hs, hr]

theorem exec_append {o : Oper} {a : Act} {w w' : World} {d s : Operand} {t t' : TypeId} (ho : o.op = .call { callee := .builtin .append, args := #[d, s], argTypes := #[t, t'] }) {v u v' : Value} (hd : a.eval d = v) (hs : a.eval s = u)
    (hr : (Builtin.append_ #[t, t'] o.type #[v, u]).run Tryd.prog w = .ok v' w') : (execOp a.eval o).run Tryd.prog w = .ok (.value v') w' := by
  simp only [execOp, ho, resolve, invoke, builtin, Sem.run_bind, Sem.run_pure, Result.andThen_ok, List.map_toArray, List.map_cons, List.map_nil, hd, hs, hr]

def insN (l : List (List Int × Int)) (i : Nat) (x : List Int × Int) : List (List Int × Int) := l.take i ++ x :: l.drop i

theorem insN_end (l : List (List Int × Int)) (x : List Int × Int) : insN l l.length x = l ++ [x] := by simp [insN]
theorem insN_len (l : List (List Int × Int)) (i : Nat) (x : List Int × Int) (h : i ≤ l.length) : (insN l i x).length = l.length + 1 := by
  simp only [insN, List.length_append, List.length_take, List.length_cons, List.length_drop]
  omega
theorem insN_mem {l : List (List Int × Int)} {i : Nat} {x p : List Int × Int} (h : p ∈ insN l i x) : p = x ∨ p ∈ l := by
  unfold insN at h
  rcases List.mem_append.1 h with q | q
  · exact .inr (List.mem_of_mem_take q)
  · rcases List.mem_cons.1 q with r | r
    · exact .inl r
    · exact .inr (List.mem_of_mem_drop r)
theorem insN_flat (l : List (List Int × Int)) (i : Nat) (x : List Int × Int) : ((insN l i x).map nrow).flatten = ((l.map nrow).take i).flatten ++ (nrow x ++ ((l.map nrow).drop i).flatten) := by
  simp only [insN, List.map_append, List.map_cons, List.flatten_append, List.flatten_cons, List.map_take, List.map_drop]
end Go.Proofs.YtnchjlimkgbfpaaDoor

/- slices.Insert of one name, walked. -/
namespace Go.Proofs.YtnchjlimkgbfpaaDoor
open Go.RowKit
set_option linter.unusedVariables false

theorem nrow_len (l : List (List Int × Int)) : ∀ cs ∈ l.map nrow, cs.length = 2 := by
  intro cs hcs
  obtain ⟨p, _, rfl⟩ := List.mem_map.1 hcs
  rfl

theorem nrow_oneL (x : List Int × Int) : ∀ u ∈ nrow x, u.oneCell' = true := by
  intro u hu
  simp [nrow] at hu
  rcases hu with rfl | rfl <;> rfl

theorem over_front (a b z : List Value) (hb : b.length ≤ z.length) : over (a ++ z) a.length b = a ++ b ++ z.drop b.length := by
  unfold over
  rw [List.take_append_of_le_length (Nat.le_refl _), List.take_of_length_le (Nat.le_refl _), List.drop_append]
  rw [List.drop_of_length_le (by omega), List.nil_append]
  congr 2
  omega

end Go.Proofs.YtnchjlimkgbfpaaDoor

/- Acts that change the names: sync the names, remove. -/
namespace Go.Proofs.YtnchjlimkgbfpaaDoor
open Go.RowKit
set_option linter.unusedVariables false

/-- A state in its block, laid open. -/
def OpenS (w : World) (base B : Nat) (s : St) (af : Option Addr) (cf : Nat) (an : Option Addr) (cn : Nat) (as' : Option Addr) (cs' : Nat) (m : List FRow) : Prop :=
  True ∧ w.heap[B]? = some (.cells #[.int .i64 s.cap, .slice af m.length cf, .slice an s.names.length cn, .slice as' s.safe.length cs', .int .i64 s.next] 42) ∧ m.map (·.2) = s.files ∧ OwnF w base (.slice af m.length cf) m ∧
    OwnN w base 74 (.slice an s.names.length cn) s.names ∧ OwnN w base 74 (.slice as' s.safe.length cs') s.safe ∧ Apart (.slice an s.names.length cn) (.slice as' s.safe.length cs') ∧ In64 s.cap ∧ In64 s.next

theorem OwnS.open {w : World} {base B : Nat} {s : St} (h : OwnS w base B s) : ∃ af cf an cn as' cs' m, OpenS w base B s af cf an cn as' cs' m := by
  obtain ⟨hB, vf, vn, vs, m, hb, hm, of, on, os, hap, hi1, hi2⟩ := h
  obtain ⟨a1, c1, e1, _, _⟩ := (NamesW.own on).len
  obtain ⟨a2, c2, e2, _, _⟩ := (NamesW.own os).len
  obtain ⟨a3, c3, e3, _, _⟩ := (Rws.own of.1).len
  rw [List.length_map] at e3
  subst e1
  subst e2
  subst e3
  exact ⟨_, _, _, _, _, _, m, hB, hb, hm, of, on, os, hap, hi1, hi2⟩

theorem OpenS.shut {w : World} {base B : Nat} {s : St} {af : Option Addr} {cf : Nat} {an : Option Addr} {cn : Nat} {as' : Option Addr} {cs' : Nat} {m : List FRow} (h : OpenS w base B s af cf an cn as' cs' m) : OwnS w base B s := by
  obtain ⟨hB, hb, hm, of, on, os, hap, hi1, hi2⟩ := h
  exact ⟨hB, _, _, _, m, hb, hm, of, on, os, hap, hi1, hi2⟩

theorem OpenS.up {w w' : World} {base B : Nat} {s : St} {af : Option Addr} {cf : Nat} {an : Option Addr} {cn : Nat} {as' : Option Addr} {cs' : Nat} {m : List FRow} (h : OpenS w base B s af cf an cn as' cs' m) (hb : Below w.heap.size w w') : OpenS w' base B s af cf an cn as' cs' m := by
  obtain ⟨hB, h1, hm, of, on, os, hap, hi1, hi2⟩ := h
  exact ⟨hB, blk_up h1 hb, hm, of.up hb, on.up hb, os.up hb, hap, hi1, hi2⟩

/-- New names are stored. -/
theorem OpenS.setNames {w w1 : World} {base B : Nat} {s : St} {af : Option Addr} {cf : Nat} {an : Option Addr} {cn : Nat} {as' : Option Addr} {cs' : Nat} {m : List FRow} (h : OpenS w base B s af cf an cn as' cs' m) (hbase : base ≤ w.heap.size) {v' : Value} {l' : List (List Int × Int)}
    (hg : w.grownBy w1 (Value.ownBlock (.slice an s.names.length cn))) (hn : Near w (.slice an s.names.length cn) v') (ho : OwnN w1 base 74 v' l') :
    w1.heap[B]? = some (.cells #[.int .i64 s.cap, .slice af m.length cf, .slice an s.names.length cn, .slice as' s.safe.length cs', .int .i64 s.next] 42) ∧ OwnS (w1.setCell ⟨B, 2, none⟩ v') base B { s with names := l' } ∧ Beside base B w (w1.setCell ⟨B, 2, none⟩ v') := by
  obtain ⟨hB, hb, hm, of, on, os, hap, hi1, hi2⟩ := h
  have nB : some B ≠ Value.ownBlock (.slice an s.names.length cn) := by
    have := own_blk_ne on.2.2 hb (by decide)
    rcases this with q | q
    · rw [q]; simp
    · exact fun e => q e.symm
  have b1 := blk_grown hb hg nB
  have of1 := of.far hg (own_own_ne of.1.2 on.2.2 (by decide)) (fun y hy => own_own_ne (of.2.1 y hy).1 on.2.2 (by decide))
  have os1 := os.far hg hap.symm
  have g5 := grown_set w1 ⟨B, 2, none⟩ v'
  refine ⟨b1, ⟨hB, _, _, _, m, blk_set b1 2 v', hm, ?_, ?_, ?_, hn.apart hap os.2.2, hi1, hi2⟩, ?_⟩
  · exact of1.far g5 (own_blk_ne of1.1.2 b1 (by decide)) (fun y hy => own_blk_ne (of1.2.1 y hy).1 b1 (by decide))
  · exact ho.far g5 (own_blk_ne ho.2.2 b1 (by decide))
  · exact os1.far g5 (own_blk_ne os1.2.2 b1 (by decide))
  · refine ((Beside.refl base B w).grown hg hbase (fun k hk => .inl (on.2.2.lt k hk).1)).grown g5 (Nat.le_trans hbase hg.size) (fun k hk => ?_)
    injection hk with hk
    rw [← hk]
    exact .inr rfl

/-- New safe names, in new memory, are stored. -/
theorem OpenS.setSafe {w w1 : World} {base B : Nat} {s : St} {af : Option Addr} {cf : Nat} {an : Option Addr} {cn : Nat} {as' : Option Addr} {cs' : Nat} {m : List FRow} (h : OpenS w base B s af cf an cn as' cs' m) (hbase : base ≤ w.heap.size) {v' : Value} {l' : List (List Int × Int)}
    (hg : Below w.heap.size w w1) (ho : OwnN w1 w.heap.size 74 v' l') :
    w1.heap[B]? = some (.cells #[.int .i64 s.cap, .slice af m.length cf, .slice an s.names.length cn, .slice as' s.safe.length cs', .int .i64 s.next] 42) ∧ OwnS (w1.setCell ⟨B, 3, none⟩ v') base B { s with safe := l' } ∧ Beside base B w (w1.setCell ⟨B, 3, none⟩ v') := by
  obtain ⟨hB, hb, hm, of, on, os, hap, hi1, hi2⟩ := h
  have b1 := blk_up hb hg
  have of1 := of.up hg
  have on1 := on.up hg
  have g5 := grown_set w1 ⟨B, 3, none⟩ v'
  refine ⟨b1, ⟨hB, _, _, _, m, blk_set b1 3 v', hm, ?_, ?_, ?_, apart_new on.2.2 ho.2.2, hi1, hi2⟩, ?_⟩
  · exact of1.far g5 (own_blk_ne of1.1.2 b1 (by decide)) (fun y hy => own_blk_ne (of1.2.1 y hy).1 b1 (by decide))
  · exact on1.far g5 (own_blk_ne on1.2.2 b1 (by decide))
  · exact (ho.mono hbase).far g5 (own_blk_ne ho.2.2 b1 (by decide))
  · refine (Below_beside hg hbase).grown g5 (Nat.le_trans hbase hg.size) (fun k hk => ?_)
    injection hk with hk
    rw [← hk]
    exact .inr rfl

/-- What the acts ask of a state. -/
def Fine (s : St) : Prop := s.files.length ≤ 256 ∧ s.names.length ≤ 256 ∧ s.safe.length ≤ 256 ∧ RiseN s.names ∧ RiseF s.files

def syncNamesP (s : St) : St := sweptOf { s with safe := s.names }

def removeP (s : St) (name : List Int) : St × Int := if thereN s.names name then (sweptOf { s with names := s.names.eraseIdx (rankN s.names name) }, 0) else (s, 71)

theorem place_small {l : List (List Int × Int)} {t : List Int} (h : thereN l t = true) : rankN l t < l.length := lt_of_thereN h

end Go.Proofs.YtnchjlimkgbfpaaDoor

/- Acts that change a file: sync, append. -/
namespace Go.Proofs.YtnchjlimkgbfpaaDoor
open Go.RowKit
set_option linter.unusedVariables false

abbrev noF : FRow := (undef, 0, [], 0)

/-! ### octets as rows of one cell -/
theorem octR_len (l : List Int) : ∀ cs ∈ l.map (fun x => [Value.int .u8 x]), cs.length = 1 := by
  intro cs hcs
  obtain ⟨p, _, rfl⟩ := List.mem_map.1 hcs
  rfl
theorem octR_flat (l : List Int) : (l.map (fun x => [Value.int .u8 x])).flatten = l.map (Value.int .u8) := by
  induction l with
  | nil => rfl
  | cons x l ih => simp [ih]
theorem OwnB.rows {w : World} {base : Nat} {v : Value} {l : List Int} (h : OwnB w base v l) : OwnR w base 5 1 v (l.map (fun x => [Value.int .u8 x])) := by
  refine ⟨octR_len l, ?_⟩
  rw [octR_flat, List.length_map]
  exact h
theorem OwnR.octs {w : World} {base : Nat} {v : Value} {l : List Int} (h : OwnR w base 5 1 v (l.map (fun x => [Value.int .u8 x]))) : OwnB w base v l := by
  have := h.2
  rw [octR_flat, List.length_map] at this
  exact this

theorem run_append_octs_near (w : World) (ty : TypeId) (base : Nat) (v vx : Value) (l0 lx : List Int) (hown : OwnB w base v l0) (hO : Octs w vx lx) (hsz : l0.length + lx.length ≤ 140737488355328) (hbase : base ≤ w.heap.size) :
    ∃ v' w', (Builtin.append_ #[56, 56] ty #[v, vx]).run Tryd.prog w = .ok v' w' ∧ OwnB w' base v' (l0 ++ lx) ∧ w.grownBy w' v.ownBlock ∧ Near w v v' := by
  obtain ⟨hoct, hO⟩ := hO
  have key : ∀ (ad : Addr) (c : Nat), vx = .slice (some ad) lx.length c → (∀ j u, (lx.map (Value.int .u8))[j]? = some u → w.cell? (ad.add j) = some u) → ∃ v' w', (Builtin.append_ #[56, 56] ty #[v, vx]).run Tryd.prog w = .ok v' w' ∧ OwnB w' base v' (l0 ++ lx) ∧ w.grownBy w' v.ownBlock ∧ Near w v v' := by
    intro ad c e hc
    rw [e]
    obtain ⟨v', w', hr, ho, hg, hn⟩ := run_append_near w 56 ty 5 (.int .u8 0) 1 1 Tryd.underlying56 Tryd.info5 rfl (by decide) base v (l0.map (fun x => [Value.int .u8 x])) hown.rows ad lx.length c (lx.map (fun x => [Value.int .u8 x])) (octR_len lx) (by simp) (by rw [octR_flat]; exact hc) (by
        intro cs hcs u hu
        obtain ⟨p, _, rfl⟩ := List.mem_map.1 hcs
        simp at hu
        subst hu
        rfl) (by rw [List.length_map]; omega) (by rw [List.length_map]; unfold maxLen; omega) hbase
    rw [← List.map_append] at ho
    exact ⟨v', w', hr, ho.octs, hg, hn⟩
  rcases hO with ⟨rfl, ax, cap, rfl, hn⟩ | ⟨hne, b, off, cap, rfl, hcap, hm, hc⟩
  · cases ax with
    | none =>
      obtain rfl := hn rfl
      obtain ⟨i0, hi, hz0, hz1, hz2⟩ := info_some Tryd.info5
      have hrun := run_append_owned_none (P := Tryd.prog) (w := w) base 56 ty 5 i0 1 Tryd.underlying56 hi v l0.length (l0.map (Value.int .u8)) hown
      exact ⟨v, w, hrun, by simpa using hown, grown_refl _ _, .inl rfl⟩
    | some ad => exact key ad cap rfl (fun j u hj => by simp at hj)
  · refine key ⟨b, off, none⟩ cap rfl fun j u hj => ?_
    rw [List.getElem?_map] at hj
    cases hx : lx[j]? with
    | none => rw [hx] at hj; cases hj
    | some y =>
      rw [hx] at hj
      simp at hj
      subst hj
      rw [Addr.add_lit]
      exact hc j y hx

/-! ### a file is changed in its row -/
theorem fset_map (m : List FRow) (i : Nat) (hi : i < m.length) (y : FRow) : (m.set i y).map frow = (m.map frow).set i (frow y) := by rw [List.map_set]

theorem pairwise_set {m : List FRow} {i : Nat} {y : FRow} (hi : i < m.length) (h : m.Pairwise (fun a b => Apart a.1 b.1)) (hy : ∀ j, j < m.length → j ≠ i → Apart y.1 (m.getD j noF).1) : (m.set i y).Pairwise (fun a b => Apart a.1 b.1) := by
  rw [List.pairwise_iff_getElem] at h ⊢
  intro a b ha hb hab
  have ha' : a < m.length := by simpa using ha
  have hb' : b < m.length := by simpa using hb
  rw [List.getElem_set, List.getElem_set]
  by_cases e1 : i = a
  · have e2 : ¬ i = b := by omega
    rw [if_pos e1, if_neg e2]
    have := hy b hb' (fun q => e2 q.symm)
    simpa [List.getD, hb'] using this
  · rw [if_neg e1]
    by_cases e2 : i = b
    · rw [if_pos e2]
      have := hy a ha' (fun q => e1 q.symm)
      exact Apart.symm (by simpa [List.getD, ha'] using this)
    · rw [if_neg e2]
      exact h a b ha' hb' hab

theorem apart_at {m : List FRow} (h : m.Pairwise (fun a b => Apart a.1 b.1)) (i j : Nat) (hi : i < m.length) (hj : j < m.length) (hne : i ≠ j) : Apart (m.getD i noF).1 (m.getD j noF).1 := by
  rw [List.pairwise_iff_getElem] at h
  rcases Nat.lt_or_ge i j with c | c
  · have := h i j hi hj c
    simpa [List.getD, hi, hj] using this
  · have := h j i hj hi (by omega)
    have := this.symm
    simpa [List.getD, hi, hj] using this

/-- How many are synced is written. -/
theorem OwnF.sync {w : World} {base g n c : Nat} {m : List FRow} (h : OwnF w base (.slice (some ⟨g, 0, none⟩) n c) m) (hn : m.length = n) (i : Nat) (hi : i < n) (k : Int) (hk : In64 k) :
    OwnF (w.setCell ⟨g, i * 3 + 2, none⟩ (.int .i64 k)) base (.slice (some ⟨g, 0, none⟩) n c) (m.set i ((m.getD i noF).1, (m.getD i noF).2.1, (m.getD i noF).2.2.1, k)) := by
  have st := OwnR.set h.1 (by rw [List.length_map]; exact hn) i hi 2 (by decide) (.int .i64 k)
  have hmem : m.getD i noF ∈ m := by
    have : i < m.length := by omega
    simp [List.getD, this]
  have hrow : ((m.map frow).getD i []).set 2 (.int .i64 k) = frow ((m.getD i noF).1, (m.getD i noF).2.1, (m.getD i noF).2.2.1, k) := by
    have : i < m.length := by omega
    simp [List.getD, this, frow]
  rw [hrow, ← List.map_set] at st
  refine ⟨st.1, ?_, ?_⟩
  · intro y hy
    rcases List.mem_or_eq_of_mem_set hy with q | q
    · have := h.2.1 y q
      exact ⟨this.1.far st.2.1 (own_own_ne this.1 h.1.2 (by decide)), this.2⟩
    · have := h.2.1 _ hmem
      rw [q]
      exact ⟨this.1.far st.2.1 (own_own_ne this.1 h.1.2 (by decide)), this.2.1, this.2.2.1, this.2.2.2.1, hk⟩
  · refine pairwise_set (by omega) h.2.2 fun j hj hne => ?_
    exact apart_at h.2.2 i j (by omega) hj (fun q => hne q.symm)

/-- Octets were appended to a file: in w1; its slice is written. -/
theorem OwnF.data {w w1 : World} {base g n c : Nat} {m : List FRow} (h : OwnF w base (.slice (some ⟨g, 0, none⟩) n c) m) (hn : m.length = n) (i : Nat) (hi : i < n) {v' : Value} {d : List Int} (ho : OwnB w1 base v' d) (hg : w.grownBy w1 (m.getD i noF).1.ownBlock) (hnear : Near w (m.getD i noF).1 v') (hd : OctL d ∧ d.length ≤ 140737488355328) :
    OwnF (w1.setCell ⟨g, i * 3 + 1, none⟩ v') base (.slice (some ⟨g, 0, none⟩) n c) (m.set i (v', (m.getD i noF).2.1, d, (m.getD i noF).2.2.2)) := by
  have hmem : m.getD i noF ∈ m := by
    have : i < m.length := by omega
    simp [List.getD, this]
  have hi0 := h.2.1 _ hmem
  have hR1 := h.1.far hg (own_own_ne h.1.2 hi0.1 (by decide))
  have st := OwnR.set hR1 (by rw [List.length_map]; exact hn) i hi 1 (by decide) v'
  have hrow : ((m.map frow).getD i []).set 1 v' = frow (v', (m.getD i noF).2.1, d, (m.getD i noF).2.2.2) := by
    have : i < m.length := by omega
    simp [List.getD, this, frow]
  rw [hrow, ← List.map_set] at st
  have others : ∀ j, j < m.length → j ≠ i → OwnB w1 base (m.getD j noF).1 (m.getD j noF).2.2.1 := by
    intro j hj hne
    have hm : m.getD j noF ∈ m := by simp [List.getD, hj]
    exact (h.2.1 _ hm).1.far hg (apart_at h.2.2 j i hj (by omega) hne)
  refine ⟨st.1, ?_, ?_⟩
  · intro y hy
    obtain ⟨j, hj, rfl⟩ := List.getElem_of_mem hy
    have hj' : j < m.length := by simpa using hj
    rw [List.getElem_set]
    by_cases e : i = j
    · rw [if_pos e]
      exact ⟨ho.far st.2.1 (own_own_ne ho hR1.2 (by decide)), hd.1, hd.2, hi0.2.2.2.1, hi0.2.2.2.2⟩
    · rw [if_neg e]
      have h1 := others j hj' (fun q => e q.symm)
      have e1 : m.getD j noF = m[j] := by simp [List.getD, hj']
      rw [e1] at h1
      exact ⟨h1.far st.2.1 (own_own_ne h1 hR1.2 (by decide)), (h.2.1 m[j] (List.getElem_mem hj')).2⟩
  · refine pairwise_set (by omega) h.2.2 fun j hj hne => ?_
    have hm : m.getD j noF ∈ m := by simp [List.getD, hj]
    exact hnear.apart (apart_at h.2.2 i j (by omega) hj (fun q => hne q.symm)) (h.2.1 _ hm).1
end Go.Proofs.YtnchjlimkgbfpaaDoor

/- Acts that change a file, walked: sync, append. -/
namespace Go.Proofs.YtnchjlimkgbfpaaDoor
open Go.RowKit
set_option linter.unusedVariables false
set_option linter.unusedSimpArgs false

def idN (s : St) (name : List Int) : Int := (s.names.getD (rankN s.names name) ([], 0)).2
def hasF (s : St) (name : List Int) : Bool := thereN s.names name && thereF s.files (idN s name)
def idxF (s : St) (name : List Int) : Nat := rankF s.files (idN s name)
def fileD (s : St) (i : Nat) : Int × List Int × Int := s.files.getD i (0, [], 0)

def syncP (s : St) (name : List Int) : St × Int := if hasF s name then ({ s with files := s.files.set (idxF s name) ((fileD s (idxF s name)).1, (fileD s (idxF s name)).2.1, ((fileD s (idxF s name)).2.1.length : Int)) }, 0) else (s, 71)
def extendP (s : St) (name data : List Int) : St × Int :=
  if hasF s name then
    if s.cap - usedOf s.files < (data.length : Int) then (s, 51) else ({ s with files := s.files.set (idxF s name) ((fileD s (idxF s name)).1, (fileD s (idxF s name)).2.1 ++ data, (fileD s (idxF s name)).2.2) }, 0)
  else (s, 71)

theorem used_ge : ∀ (l : List (Int × List Int × Int)) (i : Nat), i < l.length → ((l.getD i (0, [], 0)).2.1.length : Int) ≤ usedOf l
  | [], i, h => by simp at h
  | x :: l, 0, _ => by
    have := used_pos l
    simp only [usedOf, List.map_cons, List.sum_cons] at this ⊢
    simp
    omega
  | x :: l, i + 1, h => by
    have := used_ge l i (by simpa using h)
    simp only [usedOf, List.map_cons, List.sum_cons] at this ⊢
    simp at this ⊢
    omega

theorem idx_lt {s : St} {name : List Int} (h : hasF s name = true) : idxF s name < s.files.length := by
  unfold hasF thereF at h
  simp only [Bool.and_eq_true, decide_eq_true_eq] at h
  exact h.2.1

theorem OpenS.rowAt {w : World} {base B : Nat} {s : St} {af : Option Addr} {cf : Nat} {an : Option Addr} {cn : Nat} {as' : Option Addr} {cs' : Nat} {m : List FRow} (h : OpenS w base B s af cf an cn as' cs' m) (i : Nat) (hi : i < s.files.length) :
    i < m.length ∧ (∃ g, af = some ⟨g, 0, none⟩) ∧ (m.getD i noF).2 = fileD s i ∧ ∃ a c, (m.getD i noF).1 = .slice a (fileD s i).2.1.length c := by
  have hl : m.length = s.files.length := by
    have := congrArg List.length h.2.2.1
    simpa using this
  have him : i < m.length := by omega
  have e : (m.getD i noF).2 = fileD s i := by
    unfold fileD
    rw [← h.2.2.1]
    simp [List.getD, him]
  refine ⟨him, ?_, e, ?_⟩
  · rcases h.2.2.2.1.1.2.2 with ⟨e2, e3⟩ | ⟨g, cap', cur, e2, _⟩
    · rw [List.length_map] at e3; omega
    · simp at e2
      exact ⟨g, e2.1⟩
  · have hm : m.getD i noF ∈ m := by simp [List.getD, him]
    have h1 := h.2.2.2.1.2.1 _ hm
    obtain ⟨a, c, e1, _⟩ := (Octs.own h1.1 h1.2.1).slice
    rw [e] at e1
    exact ⟨a, c, e1⟩

theorem OpenS.cells3 {w : World} {base B : Nat} {s : St} {g cf : Nat} {an : Option Addr} {cn : Nat} {as' : Option Addr} {cs' : Nat} {m : List FRow} (h : OpenS w base B s (some ⟨g, 0, none⟩) cf an cn as' cs' m) (i : Nat) (hi : i < m.length) :
    w.cell? ⟨g, i * 3, none⟩ = some (.int .i64 (m.getD i noF).2.1) ∧ w.cell? ⟨g, i * 3 + 1, none⟩ = some (m.getD i noF).1 ∧ w.cell? ⟨g, i * 3 + 2, none⟩ = some (.int .i64 (m.getD i noF).2.2.2) ∧ ∀ q, w.frozen? ⟨g, q, none⟩ = false := by
  obtain ⟨b, off, cap, e, _, _, hc⟩ := (Rws.own h.2.2.2.1.1).at i (by rw [List.length_map]; exact hi)
  simp at e
  obtain ⟨⟨rfl, rfl⟩, _⟩ := e
  have hr : (m.map frow).getD i [] = frow (m.getD i noF) := by simp [List.getD, hi]
  rw [hr] at hc
  have c0 := hc 0 _ rfl
  have c1 := hc 1 _ rfl
  have c2 := hc 2 _ rfl
  simp only [Nat.zero_add, Nat.add_zero] at c0 c1 c2
  refine ⟨c0, c1, c2, fun q => ?_⟩
  obtain ⟨cur, hh, _⟩ := h.2.2.2.1.1.blk
  exact blk_frozen hh q

theorem map_set_snd (m : List FRow) (i : Nat) (y : FRow) : (m.set i y).map (·.2) = (m.map (·.2)).set i y.2 := by rw [List.map_set]

/-- A file's row was written: w1 is w but for blocks of the file's octets, then the row's block. -/
theorem OpenS.setFile {w w1 : World} {base B : Nat} {s : St} {g cf : Nat} {an : Option Addr} {cn : Nat} {as' : Option Addr} {cs' : Nat} {m : List FRow} (h : OpenS w base B s (some ⟨g, 0, none⟩) cf an cn as' cs' m) (hbase : base ≤ w.heap.size) (i : Nat) (hi : i < m.length) {r : Option Nat} (hg : w.grownBy w1 r) (hr : r = none ∨ r = (m.getD i noF).1.ownBlock)
    (k : Nat) (u : Value) (y : FRow) (hf : OwnF (w1.setCell ⟨g, k, none⟩ u) base (.slice (some ⟨g, 0, none⟩) m.length cf) (m.set i y)) : OwnS (w1.setCell ⟨g, k, none⟩ u) base B { s with files := s.files.set i y.2 } ∧ Beside base B w (w1.setCell ⟨g, k, none⟩ u) := by
  obtain ⟨hB, hb, hm, of, on, os, hap, hi1, hi2⟩ := h
  have hmem : m.getD i noF ∈ m := by simp [List.getD, hi]
  have hd := (of.2.1 _ hmem).1
  have ne1 : ∀ {e : TypeId} {sz : Nat} {v : Value} {n : Nat} {xs : List Value}, w.ownsRow base e sz v n xs → e ≠ 5 → v.ownBlock = none ∨ v.ownBlock ≠ r := by
    intro e sz v n xs ho he
    rcases hr with q | q
    · rw [q]
      cases v.ownBlock with
      | none => exact .inl rfl
      | some b => exact .inr (by simp)
    · rw [q]
      exact own_own_ne ho hd he
  have nB : some B ≠ r := by
    rcases hr with q | q
    · rw [q]; simp
    · rw [q]
      have := own_blk_ne hd hb (by decide)
      rcases this with q | q
      · rw [q]; simp
      · exact fun e => q e.symm
  have b1 := blk_grown hb hg nB
  have on1 := on.far hg (ne1 on.2.2 (by decide))
  have os1 := os.far hg (ne1 os.2.2 (by decide))
  have of1 := of.1.far hg (ne1 of.1.2 (by decide))
  have g5 := grown_set w1 ⟨g, k, none⟩ u
  have hgb := of.1.2.lt g rfl
  have nBg : some B ≠ some g := by
    have := own_blk_ne of1.2 b1 (by decide)
    simp [Value.ownBlock] at this
    intro q
    injection q with q
    exact this q.symm
  refine ⟨⟨hB, _, _, _, m.set i y, blk_grown b1 g5 nBg, ?_, ?_, on1.far g5 (own_own_ne on1.2.2 of1.2 (by decide)), os1.far g5 (own_own_ne os1.2.2 of1.2 (by decide)), hap, hi1, hi2⟩, ?_⟩
  · rw [map_set_snd, hm]
  · exact hf
  · refine ((Beside.refl base B w).grown hg hbase (fun j hj => ?_)).grown g5 (Nat.le_trans hbase hg.size) (fun j hj => by injection hj with hj; rw [← hj]; exact .inl hgb.1)
    rcases hr with q | q
    · rw [q] at hj; cases hj
    · rw [q] at hj; exact .inl (hd.lt j hj).1

end Go.Proofs.YtnchjlimkgbfpaaDoor

/- The act that makes a file. -/
namespace Go.Proofs.YtnchjlimkgbfpaaDoor
open Go.RowKit
set_option linter.unusedVariables false
set_option linter.unusedSimpArgs false

def createP (s : St) (name : List Int) : St × Int :=
  if mayOf name then
    if thereN s.names name then (s, 6) else if s.files.length = 256 ∨ s.next = 2147483647 then (s, 51) else
      ({ s with names := insN s.names (rankN s.names name) (name, s.next), files := s.files ++ [(s.next, [], 0)], next := s.next + 1 }, 0)
  else (s, 31)

theorem OpenS.setNext {w : World} {base B : Nat} {s : St} {af : Option Addr} {cf : Nat} {an : Option Addr} {cn : Nat} {as' : Option Addr} {cs' : Nat} {m : List FRow} (h : OpenS w base B s af cf an cn as' cs' m) (hbase : base ≤ w.heap.size) (k : Int) (hk : In64 k) :
    OwnS (w.setCell ⟨B, 4, none⟩ (.int .i64 k)) base B { s with next := k } ∧ Beside base B w (w.setCell ⟨B, 4, none⟩ (.int .i64 k)) := by
  obtain ⟨hB, hb, hm, of, on, os, hap, hi1, hi2⟩ := h
  have g5 := grown_set w ⟨B, 4, none⟩ (.int .i64 k)
  refine ⟨⟨hB, _, _, _, m, blk_set hb 4 _, hm, ?_, ?_, ?_, hap, hi1, hk⟩, ?_⟩
  · exact of.far g5 (own_blk_ne of.1.2 hb (by decide)) (fun y hy => own_blk_ne (of.2.1 y hy).1 hb (by decide))
  · exact on.far g5 (own_blk_ne on.2.2 hb (by decide))
  · exact os.far g5 (own_blk_ne os.2.2 hb (by decide))
  · exact (Beside.refl base B w).grown g5 hbase (fun j hj => by injection hj with hj; rw [← hj]; exact .inr rfl)

theorem OpenS.addFile {w w1 : World} {base B : Nat} {s : St} {af : Option Addr} {cf : Nat} {an : Option Addr} {cn : Nat} {as' : Option Addr} {cs' : Nat} {m : List FRow} (h : OpenS w base B s af cf an cn as' cs' m) (hbase : base ≤ w.heap.size) {v' : Value} (id : Int) (hid : In64 id)
    (hg : w.grownBy w1 (Value.ownBlock (.slice af m.length cf))) (ho : OwnR w1 base 79 3 v' (m.map frow ++ [[.int .i64 id, .slice none 0 0, .int .i64 0]])) :
    w1.heap[B]? = some (.cells #[.int .i64 s.cap, .slice af m.length cf, .slice an s.names.length cn, .slice as' s.safe.length cs', .int .i64 s.next] 42) ∧ OwnS (w1.setCell ⟨B, 1, none⟩ v') base B { s with files := s.files ++ [(id, [], 0)] } ∧ Beside base B w (w1.setCell ⟨B, 1, none⟩ v') := by
  obtain ⟨hB, hb, hm, of, on, os, hap, hi1, hi2⟩ := h
  have nB : some B ≠ Value.ownBlock (.slice af m.length cf) := by
    have := own_blk_ne of.1.2 hb (by decide)
    rcases this with q | q
    · rw [q]; simp
    · exact fun e => q e.symm
  have b1 := blk_grown hb hg nB
  have on1 := on.far hg (own_own_ne on.2.2 of.1.2 (by decide))
  have os1 := os.far hg (own_own_ne os.2.2 of.1.2 (by decide))
  have g5 := grown_set w1 ⟨B, 1, none⟩ v'
  have ho5 := ho.far g5 (own_blk_ne ho.2 b1 (by decide))
  refine ⟨b1, ⟨hB, _, _, _, m ++ [(.slice none 0 0, id, [], 0)], blk_set b1 1 v', ?_, ⟨?_, ?_, ?_⟩, ?_, ?_, hap, hi1, hi2⟩, ?_⟩
  · simp [hm]
  · rw [List.map_append]
    exact ho5
  · intro y hy
    rcases List.mem_append.1 hy with q | q
    · have h1 := of.2.1 y q
      have h2 := h1.1.far hg (own_own_ne h1.1 of.1.2 (by decide))
      exact ⟨h2.far g5 (own_blk_ne h2 b1 (by decide)), h1.2⟩
    · simp at q
      subst q
      exact ⟨OwnB.nil _ _, ⟨(fun x hx => by cases hx), by simp, hid, by show In64 0; unfold In64; omega⟩⟩
  · rw [List.pairwise_append]
    refine ⟨of.2.2, by simp, fun a ha b hb => ?_⟩
    simp at hb
    subst hb
    exact Apart.symm (.inl rfl)
  · exact on1.far g5 (own_blk_ne on1.2.2 b1 (by decide))
  · exact os1.far g5 (own_blk_ne os1.2.2 b1 (by decide))
  · refine ((Beside.refl base B w).grown hg hbase (fun k hk => .inl (of.1.2.lt k hk).1)).grown g5 (Nat.le_trans hbase hg.size) (fun k hk => ?_)
    injection hk with hk
    rw [← hk]
    exact .inr rfl

end Go.Proofs.YtnchjlimkgbfpaaDoor

/- The act that renames. -/
namespace Go.Proofs.YtnchjlimkgbfpaaDoor
open Go.RowKit
set_option linter.unusedVariables false
set_option linter.unusedSimpArgs false

def renamed (l : List (List Int × Int)) (tn : List Int) (id : Int) : List (List Int × Int) :=
  if thereN l tn then l.set (rankN l tn) ((l.getD (rankN l tn) ([], 0)).1, id) else insN l (rankN l tn) (tn, id)

def renameP (s : St) (name tn : List Int) : St × Int :=
  if thereN s.names name then
    if mayOf tn then
      if tn = name then (s, 0) else (sweptOf { s with names := renamed (s.names.eraseIdx (rankN s.names name)) tn (idN s name) }, 0)
    else (s, 31)
  else (s, 71)

theorem getD_erase (l : List (List Int × Int)) (r k : Nat) (d : List Int × Int) : (l.eraseIdx r).getD k d = if k < r then l.getD k d else l.getD (k + 1) d := by
  simp only [List.getD, List.getElem?_eraseIdx]
  split <;> rfl

theorem RiseN.erase {l : List (List Int × Int)} (h : RiseN l) (r : Nat) (hr : r < l.length) : RiseN (l.eraseIdx r) := by
  intro a b hab hb
  have hlen : (l.eraseIdx r).length = l.length - 1 := by rw [List.length_eraseIdx, if_pos hr]
  rw [getD_erase, getD_erase]
  split <;> split
  · exact h _ _ hab (by omega)
  · exact h _ _ (by omega) (by omega)
  · omega
  · exact h _ _ (by omega) (by omega)

theorem OpenS.setId {w : World} {base B : Nat} {s : St} {af : Option Addr} {cf g cn : Nat} {as' : Option Addr} {cs' : Nat} {m : List FRow} (h : OpenS w base B s af cf (some ⟨g, 0, none⟩) cn as' cs' m) (hbase : base ≤ w.heap.size) (j : Nat) (hj : j < s.names.length) (id : Int) (hid : In64 id) :
    OwnS (w.setCell ⟨g, j * 2 + 1, none⟩ (.int .i64 id)) base B { s with names := s.names.set j ((s.names.getD j ([], 0)).1, id) } ∧ Beside base B w (w.setCell ⟨g, j * 2 + 1, none⟩ (.int .i64 id)) := by
  obtain ⟨hB, hb, hm, of, on, os, hap, hi1, hi2⟩ := h
  have st := OwnR.set on.2 (by rw [List.length_map]) j hj 1 (by decide) (.int .i64 id)
  have hrow : ((s.names.map nrow).getD j []).set 1 (.int .i64 id) = nrow ((s.names.getD j ([], 0)).1, id) := by simp [List.getD, hj, nrow]
  rw [hrow, ← List.map_set] at st
  have hgb := on.2.2.lt g rfl
  have nB : some B ≠ some g := by
    have := own_blk_ne on.2.2 hb (by decide)
    simp [Value.ownBlock] at this
    intro q
    injection q with q
    exact this q.symm
  have g5 := st.2.1
  have hlen : (s.names.set j ((s.names.getD j ([], 0)).1, id)).length = s.names.length := by simp
  refine ⟨⟨hB, _, _, _, m, blk_grown hb g5 nB, hm, ?_, ⟨?_, st.1⟩, os.far g5 hap.symm, hap, hi1, hi2⟩, ?_⟩
  · exact of.far g5 (own_own_ne of.1.2 on.2.2 (by decide)) (fun y hy => own_own_ne (of.2.1 y hy).1 on.2.2 (by decide))
  · intro p hp
    rcases List.mem_or_eq_of_mem_set hp with q | q
    · exact on.1 p q
    · rw [q]
      have hm' : s.names.getD j ([], 0) ∈ s.names := by simp [List.getD, hj]
      have := on.1 _ hm'
      exact ⟨this.1, this.2.1, hid⟩
  · exact (Beside.refl base B w).grown g5 hbase (fun k hk => by injection hk with hk; rw [← hk]; exact .inl hgb.1)

end Go.Proofs.YtnchjlimkgbfpaaDoor
