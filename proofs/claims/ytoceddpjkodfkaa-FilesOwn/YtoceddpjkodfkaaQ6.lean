/- slices.Insert of one name: in place, or in a new block. -/
import Derived.Test.YtoceddpjkodfkaaQ5
namespace Go.Proofs.Ytoceddpjkodfkaa
open Go.RowKit
set_option linter.unusedVariables false

/-- Where a slice lies behind an append: where it lay, or in a new block. -/
def Near (w : World) (v v' : Value) : Prop := v'.ownBlock = v.ownBlock ∨ ∀ b, v'.ownBlock = some b → w.heap.size ≤ b

theorem Near.apart {w : World} {v v' u : Value} {base : Nat} {e : TypeId} {sz n : Nat} {xs : List Value} (h : Near w v v') (ha : Apart v u) (hu : w.ownsRow base e sz u n xs) : Apart v' u := by
  unfold Apart at *
  rcases h with h | h
  · rw [h]
    rcases ha with q | q
    · exact .inl q
    · exact .inr q
  · cases hv : v'.ownBlock with
    | none => exact .inl rfl
    | some b =>
      refine .inr ?_
      intro q
      have h1 := h b hv
      have h2 := (hu.lt b q.symm).2
      omega

/-- append of rows onto what is owned, and where it lies then. -/
theorem run_append_near (w : World) (t ty e : TypeId) (z : Value) (sz bytes : Nat) (ht : Try.prog.underlying t = some (.slice e))
    (hinf : (Try.prog.info? e).map (fun i => (i.zero, i.size, i.bytes)) = some (some z, sz, bytes)) (hzs : z.cells.size = sz) (hsz0 : 0 < sz)
    (base : Nat) (v : Value) (css0 : List (List Value)) (hown : OwnR w base e sz v css0) (ad : Addr) (m c : Nat) (cssx : List (List Value)) (hxx : ∀ cs ∈ cssx, cs.length = sz) (hm0 : cssx.length = m)
    (hnews : ∀ j u, cssx.flatten[j]? = some u → w.cell? (ad.add j) = some u) (h1 : ∀ cs ∈ cssx, ∀ u ∈ cs, u.oneCell' = true) (hb : ((css0.length + m) + (css0.length + m) / 4 + 192) * bytes ≤ 281474976710656) (hm : css0.length + m ≤ maxLen) (hbase : base ≤ w.heap.size) :
    ∃ v' w', (Builtin.append_ #[t, t] ty #[v, .slice (some ad) m c]).run Try.prog w = .ok v' w' ∧ OwnR w' base e sz v' (css0 ++ cssx) ∧ w.grownBy w' v.ownBlock ∧ Near w v v' := by
  obtain ⟨i0, hi, hz0, hz1, hz2⟩ := info_some hinf
  have hl : cssx.flatten.length = m * sz := by rw [flat_rows cssx hxx, hm0]
  have hone : ∀ u ∈ cssx.flatten, u.oneCell' = true := by
    intro u hu
    obtain ⟨cs, q1, q2⟩ := List.mem_flatten.1 hu
    exact h1 cs q1 u q2
  obtain ⟨v', w', hr, h2, h3, h4⟩ := run_append_own_wide (P := Try.prog) w base t ty e i0 z sz bytes ht hi hz0 hz1 hz2 hzs hsz0 v css0.length css0.flatten hown.2 ad m c cssx.flatten hl hnews hone hm hb hbase
  refine ⟨v', w', hr, ⟨?_, ?_⟩, h3, ?_⟩
  · intro cs hcs
    rcases List.mem_append.1 hcs with q | q
    · exact hown.1 cs q
    · exact hxx cs q
  · rw [List.length_append, List.flatten_append, hm0]
    exact h2
  · rcases hown.2.2 with ⟨rfl, hn⟩ | ⟨g, cap, cur, rfl, hbg, hg, hnc, hcm, hcs, htk⟩
    · by_cases hm' : m = 0
      · have := h4.2 ⟨rfl, hm'⟩
        rw [this]
        exact .inl rfl
      · have hr2 := run_append_nil (P := Try.prog) w t ty e i0 z ht hi hz0 ad m c cssx.flatten (by rw [hz1]; exact hl) hnews (by omega) (by unfold maxLen at hm; omega) (by
          rw [hz2]
          exact Nat.le_trans (Nat.mul_le_mul_right _ (by omega)) hb)
        rw [hr2] at hr
        injection hr with e1 _
        rw [← e1]
        refine .inr fun b hb => ?_
        simp [Value.ownBlock] at hb
        omega
    · by_cases hroom : css0.length + m ≤ cap
      · have hfit : css0.length * i0.size + cssx.flatten.length ≤ cur.size := by rw [hl, hcs, hz1, ← Nat.add_mul]; exact Nat.mul_le_mul_right _ hroom
        have hr2 := run_append_room (P := Try.prog) w t ty e i0 ht hi g css0.length cap cur hg ad m c cssx.flatten (by rw [hz1]; exact hl) hnews hone hroom hfit
        rw [hr2] at hr
        injection hr with e1 _
        rw [← e1]
        exact .inl rfl
      · have holds : ∀ j u, css0.flatten[j]? = some u → w.cell? ((⟨g, 0, none⟩ : Addr).add j) = some u := hown.2.cells (g := g) rfl
        have hr2 := run_append_grow (P := Try.prog) w t ty e i0 z ht hi hz0 ⟨g, 0, none⟩ css0.length cap css0.flatten (by rw [hz1]; exact hown.2.1) holds ad m c cssx.flatten (by rw [hz1]; exact hl) hnews (by omega) (by unfold maxLen at hm; omega) (by rw [hz2]; exact growslice_fits_wide (by omega) hb)
        rw [hr2] at hr
        injection hr with e1 _
        rw [← e1]
        refine .inr fun b hb => ?_
        simp [Value.ownBlock] at hb
        omega

/-- An operation whose run is known. -/
theorem wpList_known (w : World) {ops : Array Oper} {rest : List Oper} {o : Oper} {a : Act} {Q : Exit → Act → World → Prop} (hgd : o.guard = none) {v' : Value} {w' : World} (hr : (execOp a.eval o).run Try.prog w = .ok (.value v') w')
    (h : wpList Try.prog ops Q rest (a.put o.dst v') w') : wpList Try.prog ops Q (o :: rest) a w := by
  refine wpList_plain hgd fun K hK => ?_
  unfold Oper.wp
  rw [hr]
  exact hK _ _ h

theorem step_known {ops : Array Oper} {o : Oper} {a : Act} {w : World} {K : Act → World → Prop} {Q : Exit → Act → World → Prop} {E : Prop} (hg : o.guard = none) {v' : Value} {w' : World} (hr : (execOp a.eval o).run Try.prog w = .ok (.value v') w') (hK : K (a.put o.dst v') w') :
    if Region.wanted o (yielded ops a.tmps) = true then Oper.wp Try.prog o a w K Q else E := by
  have hw : Region.wanted o (yielded ops a.tmps) = true := by simp [Region.wanted, hg]
  rw [if_pos hw]
  unfold Oper.wp
  rw [hr]
  exact hK

theorem exec_copy {o : Oper} {a : Act} {w w' : World} {d s : Operand} {t t' : TypeId} (ho : o.op = .call { callee := .builtin .copy, args := #[d, s], argTypes := #[t, t'] }) {v u v' : Value} (hd : a.eval d = v) (hs : a.eval s = u)
    (hr : (Builtin.copy_ #[t, t'] o.type #[v, u]).run Try.prog w = .ok v' w') : (execOp a.eval o).run Try.prog w = .ok (.value v') w' := by
  simp only [execOp, ho, resolve, invoke, builtin, Sem.run_bind, Sem.run_pure, Result.andThen_ok, List.map_toArray, List.map_cons, List.map_nil, hd, hs, hr]

theorem exec_append {o : Oper} {a : Act} {w w' : World} {d s : Operand} {t t' : TypeId} (ho : o.op = .call { callee := .builtin .append, args := #[d, s], argTypes := #[t, t'] }) {v u v' : Value} (hd : a.eval d = v) (hs : a.eval s = u)
    (hr : (Builtin.append_ #[t, t'] o.type #[v, u]).run Try.prog w = .ok v' w') : (execOp a.eval o).run Try.prog w = .ok (.value v') w' := by
  simp only [execOp, ho, resolve, invoke, builtin, Sem.run_bind, Sem.run_pure, Result.andThen_ok, List.map_toArray, List.map_cons, List.map_nil, hd, hs, hr]

def insN (l : List (List Int × Int)) (i : Nat) (x : List Int × Int) : List (List Int × Int) := l.take i ++ x :: l.drop i

theorem insN_end (l : List (List Int × Int)) (x : List Int × Int) : insN l l.length x = l ++ [x] := by simp [insN]
theorem insN_len (l : List (List Int × Int)) (i : Nat) (x : List Int × Int) (h : i ≤ l.length) : (insN l i x).length = l.length + 1 := by
  simp only [insN, List.length_append, List.length_take, List.length_cons, List.length_drop]
  omega
theorem insN_mem {l : List (List Int × Int)} {i : Nat} {x p : List Int × Int} (h : p ∈ insN l i x) : p = x ∨ p ∈ l := by
  unfold insN at h
  rcases List.mem_append.1 h with q | q
  · exact .inr (List.mem_of_mem_take q)
  · rcases List.mem_cons.1 q with r | r
    · exact .inl r
    · exact .inr (List.mem_of_mem_drop r)
theorem insN_flat (l : List (List Int × Int)) (i : Nat) (x : List Int × Int) : ((insN l i x).map nrow).flatten = ((l.map nrow).take i).flatten ++ (nrow x ++ ((l.map nrow).drop i).flatten) := by
  simp only [insN, List.map_append, List.map_cons, List.flatten_append, List.flatten_cons, List.map_take, List.map_drop]
end Go.Proofs.Ytoceddpjkodfkaa
