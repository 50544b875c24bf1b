/- The texts Q6, Q7, in this order. -/
import Derived.Test.YtnchjlimkgbfpaaGreatDoorJ10

namespace Go.Proofs.YtnchjlimkgbfpaaGreatDoor
open Go.RowKit
set_option linter.unusedVariables false
set_option maxRecDepth 20000
def Near (w : World) (v v' : Value) : Prop := v'.ownBlock = v.ownBlock ∨ ∀ b, v'.ownBlock = some b → w.heap.size ≤ b
theorem Near.apart {w : World} {v v' u : Value} {base : Nat} {e : TypeId} {sz n : Nat} {xs : List Value} (h : Near w v v') (ha : Apart v u) (hu : w.ownsRow base e sz u n xs) : Apart v' u := by
  unfold Apart at *
  rcases h with h | h
  · rw [h]
    rcases ha with q | q
    · exact .inl q
    · exact .inr q
  · cases hv : v'.ownBlock with
    | none => exact .inl rfl
    | some b =>
      refine .inr ?_
      intro q
      have h1 := h b hv
      have h2 := (hu.lt b q.symm).2
      omega
theorem run_append_near (w : World) (t ty e : TypeId) (z : Value) (sz bytes : Nat) (ht : Tryz.prog.underlying t = some (.slice e))
    (hinf : (Tryz.prog.info? e).map (fun i => (i.zero, i.size, i.bytes)) = some (some z, sz, bytes)) (hzs : z.cells.size = sz) (hsz0 : 0 < sz)
    (base : Nat) (v : Value) (css0 : List (List Value)) (hown : OwnR w base e sz v css0) (ad : Addr) (m c : Nat) (cssx : List (List Value)) (hxx : ∀ cs ∈ cssx, cs.length = sz) (hm0 : cssx.length = m)
    (hnews : ∀ j u, cssx.flatten[j]? = some u → w.cell? (ad.add j) = some u) (h1 : ∀ cs ∈ cssx, ∀ u ∈ cs, u.oneCell' = true) (hb : ((css0.length + m) + (css0.length + m) / 4 + 192) * bytes ≤ 281474976710656) (hm : css0.length + m ≤ maxLen) (hbase : base ≤ w.heap.size) :
    ∃ v' w', (Builtin.append_ #[t, t] ty #[v, .slice (some ad) m c]).run Tryz.prog w = .ok v' w' ∧ OwnR w' base e sz v' (css0 ++ cssx) ∧ w.grownBy w' v.ownBlock ∧ Near w v v' := by
  obtain ⟨i0, hi, hz0, hz1, hz2⟩ := info_some hinf
  have hl : cssx.flatten.length = m * sz := by rw [flat_rows cssx hxx, hm0]
  have hone : ∀ u ∈ cssx.flatten, u.oneCell' = true := by
    intro u hu
    obtain ⟨cs, q1, q2⟩ := List.mem_flatten.1 hu
    exact h1 cs q1 u q2
  obtain ⟨v', w', hr, h2, h3, h4⟩ := run_append_own_wide (P := Tryz.prog) w base t ty e i0 z sz bytes ht hi hz0 hz1 hz2 hzs hsz0 v css0.length css0.flatten hown.2 ad m c cssx.flatten hl hnews hone hm hb hbase
  refine ⟨v', w', hr, ⟨?_, ?_⟩, h3, ?_⟩
  · intro cs hcs
    rcases List.mem_append.1 hcs with q | q
    · exact hown.1 cs q
    · exact hxx cs q
  · rw [List.length_append, List.flatten_append, hm0]
    exact h2
  · rcases hown.2.2 with ⟨rfl, hn⟩ | ⟨g, cap, cur, rfl, hbg, hg, hnc, hcm, hcs, htk⟩
    · by_cases hm' : m = 0
      · have := h4.2 ⟨rfl, hm'⟩
        rw [this]
        exact .inl rfl
      · have hr2 := run_append_nil (P := Tryz.prog) w t ty e i0 z ht hi hz0 ad m c cssx.flatten (by rw [hz1]; exact hl) hnews (by omega) (by unfold maxLen at hm; omega) (by
          rw [hz2]
          exact Nat.le_trans (Nat.mul_le_mul_right _ (by omega)) hb)
        rw [hr2] at hr
        injection hr with e1 _
        rw [← e1]
        refine .inr fun b hb => ?_
        simp [Value.ownBlock] at hb
        omega
    · by_cases hroom : css0.length + m ≤ cap
      · have hfit : css0.length * i0.size + cssx.flatten.length ≤ cur.size := by rw [hl, hcs, hz1, ← Nat.add_mul]; exact Nat.mul_le_mul_right _ hroom
        have hr2 := run_append_room (P := Tryz.prog) w t ty e i0 ht hi g css0.length cap cur hg ad m c cssx.flatten (by rw [hz1]; exact hl) hnews hone hroom hfit
        rw [hr2] at hr
        injection hr with e1 _
        rw [← e1]
        exact .inl rfl
      · have holds : ∀ j u, css0.flatten[j]? = some u → w.cell? ((⟨g, 0, none⟩ : Addr).add j) = some u := hown.2.cells (g := g) rfl
        have hr2 := run_append_grow (P := Tryz.prog) w t ty e i0 z ht hi hz0 ⟨g, 0, none⟩ css0.length cap css0.flatten (by rw [hz1]; exact hown.2.1) holds ad m c cssx.flatten (by rw [hz1]; exact hl) hnews (by omega) (by unfold maxLen at hm; omega) (by rw [hz2]; exact growslice_fits_wide (by omega) hb)
        rw [hr2] at hr
        injection hr with e1 _
        rw [← e1]
        refine .inr fun b hb => ?_
        simp [Value.ownBlock] at hb
        omega
theorem wpList_known (w : World) {ops : Array Oper} {rest : List Oper} {o : Oper} {a : Act} {Q : Exit → Act → World → Prop} (hgd : o.guard = none) {v' : Value} {w' : World} (hr : (execOp a.eval o).run Tryz.prog w = .ok (.value v') w')
    (h : wpList Tryz.prog ops Q rest (a.put o.dst v') w') : wpList Tryz.prog ops Q (o :: rest) a w := by
  refine wpList_plain hgd fun K hK => ?_
  unfold Oper.wp
  rw [hr]
  exact hK _ _ h
theorem step_known {ops : Array Oper} {o : Oper} {a : Act} {w : World} {K : Act → World → Prop} {Q : Exit → Act → World → Prop} {E : Prop} (hg : o.guard = none) {v' : Value} {w' : World} (hr : (execOp a.eval o).run Tryz.prog w = .ok (.value v') w') (hK : K (a.put o.dst v') w') :
    if Region.wanted o (yielded ops a.tmps) = true then Oper.wp Tryz.prog o a w K Q else E := by
  have hw : Region.wanted o (yielded ops a.tmps) = true := by simp [Region.wanted, hg]
  rw [if_pos hw]
  unfold Oper.wp
  rw [hr]
  exact hK
theorem exec_copy {o : Oper} {a : Act} {w w' : World} {d s : Operand} {t t' : TypeId} (ho : o.op = .call { callee := .builtin .copy, args := #[d, s], argTypes := #[t, t'] }) {v u v' : Value} (hd : a.eval d = v) (hs : a.eval s = u)
    (hr : (Builtin.copy_ #[t, t'] o.type #[v, u]).run Tryz.prog w = .ok v' w') : (execOp a.eval o).run Tryz.prog w = .ok (.value v') w' := by
  simp only [execOp, ho, resolve, invoke, builtin, Sem.run_bind, Sem.run_pure, Result.andThen_ok, List.map_toArray, List.map_cons, List.map_nil, hd, hs, hr]
theorem exec_append {o : Oper} {a : Act} {w w' : World} {d s : Operand} {t t' : TypeId} (ho : o.op = .call { callee := .builtin .append, args := #[d, s], argTypes := #[t, t'] }) {v u v' : Value} (hd : a.eval d = v) (hs : a.eval s = u)
    (hr : (Builtin.append_ #[t, t'] o.type #[v, u]).run Tryz.prog w = .ok v' w') : (execOp a.eval o).run Tryz.prog w = .ok (.value v') w' := by
  simp only [execOp, ho, resolve, invoke, builtin, Sem.run_bind, Sem.run_pure, Result.andThen_ok, List.map_toArray, List.map_cons, List.map_nil, hd, hs, hr]
def insN (l : List (List Int × Int)) (i : Nat) (x : List Int × Int) : List (List Int × Int) := l.take i ++ x :: l.drop i
theorem insN_end (l : List (List Int × Int)) (x : List Int × Int) : insN l l.length x = l ++ [x] := by simp [insN]
theorem insN_len (l : List (List Int × Int)) (i : Nat) (x : List Int × Int) (h : i ≤ l.length) : (insN l i x).length = l.length + 1 := by
  simp only [insN, List.length_append, List.length_take, List.length_cons, List.length_drop]
  omega
theorem insN_mem {l : List (List Int × Int)} {i : Nat} {x p : List Int × Int} (h : p ∈ insN l i x) : p = x ∨ p ∈ l := by
  unfold insN at h
  rcases List.mem_append.1 h with q | q
  · exact .inr (List.mem_of_mem_take q)
  · rcases List.mem_cons.1 q with r | r
    · exact .inl r
    · exact .inr (List.mem_of_mem_drop r)
theorem insN_flat (l : List (List Int × Int)) (i : Nat) (x : List Int × Int) : ((insN l i x).map nrow).flatten = ((l.map nrow).take i).flatten ++ (nrow x ++ ((l.map nrow).drop i).flatten) := by
  simp only [insN, List.map_append, List.map_cons, List.flatten_append, List.flatten_cons, List.map_take, List.map_drop]
end Go.Proofs.YtnchjlimkgbfpaaGreatDoor

namespace Go.Proofs.YtnchjlimkgbfpaaGreatDoor
open Go.RowKit
set_option linter.unusedVariables false
set_option maxRecDepth 20000
theorem nrow_len (l : List (List Int × Int)) : ∀ cs ∈ l.map nrow, cs.length = 2 := by
  intro cs hcs
  obtain ⟨p, _, rfl⟩ := List.mem_map.1 hcs
  rfl
theorem nrow_oneL (x : List Int × Int) : ∀ u ∈ nrow x, u.oneCell' = true := by
  intro u hu
  simp [nrow] at hu
  rcases hu with rfl | rfl <;> rfl
set_option maxHeartbeats 2000000 in
set_option maxRecDepth 20000 in
theorem insertEnd_any (l : List (List Int × Int)) (v : Value) (x : List Int × Int) (VB base : Nat) (w : World) (hv : OwnN w base 146 v l) (hx : OctL x.1 ∧ x.1.length ≤ 140737488355328 ∧ In64 x.2) (hb : w.heap[VB]? = some (.cells (nrow x).toArray 146)) (hl : l.length ≤ 256) (hbase : base ≤ w.heap.size) :
    Calls Tryz.prog 177 #[v, .int .i64 l.length, .slice (some ⟨VB, 0, none⟩) 1 1] w fun e w' => ∃ v', e = .returned v' ∧ OwnN w' base 146 v' (insN l l.length x) ∧ w.grownBy w' v.ownBlock ∧ Near w v v' := by
  obtain ⟨a, cap, ev, hcap, hmax⟩ := (NamesW.own hv).len
  obtain ⟨v', w', hr, ho, hg, hn⟩ := run_append_near w 33 33 146 (.agg #[.string ⟨#[]⟩, .int .i64 0]) 2 24 Tryz.underlying33 Tryz.info146 rfl (by decide) base v (l.map nrow) hv.2 ⟨VB, 0, none⟩ 1 1 [nrow x] (by intro cs hcs; simp at hcs; subst hcs; rfl) rfl (by
      intro j u hj
      rw [Addr.add_lit, Nat.zero_add]
      exact blk_cell hb j u (by simpa using hj)) (by intro cs hcs; simp at hcs; subst hcs; exact nrow_oneL x) (by rw [List.length_map]; omega) (by rw [List.length_map]; unfold maxLen; omega) hbase
  have HO : Hid (OwnN w' base 146 v' (insN l l.length x) ∧ w.grownBy w' v.ownBlock ∧ Near w v v') := by
    refine ⟨⟨fun p hp => ?_, ?_⟩, hg, hn⟩
    · rcases insN_mem hp with rfl | q
      · exact hx
      · exact hv.1 p q
    · rw [insN_end, List.map_append]
      exact ho
  clear ho hg hn hv hx hb
  subst ev
  unfold maxLen at hmax
  by_cases hcl : cap = l.length
  · subst hcl
    go_enter Tryz.func177, Tryz.ntmps177
    go_wp2_with (at_builtin; refine Lib.wpList_append_run _ rfl _ _ _ _ rfl _ _ rfl rfl _ _ hr ?_)
    go_ret
    exact ⟨_, rfl, HO.out⟩
  · go_enter Tryz.func177, Tryz.ntmps177
    go_wp2_with (at_builtin; refine Lib.wpList_append_run _ rfl _ _ _ _ rfl _ _ rfl rfl _ _ hr ?_)
    go_ret
    exact ⟨_, rfl, HO.out⟩
set_option maxHeartbeats 2000000 in
set_option maxRecDepth 20000 in
theorem insertRoom_any (l : List (List Int × Int)) (g cap i : Nat) (x : List Int × Int) (VB base : Nat) (w : World) (hv : OwnN w base 146 (.slice (some ⟨g, 0, none⟩) l.length cap) l) (hx : OctL x.1 ∧ x.1.length ≤ 140737488355328 ∧ In64 x.2) (hb : w.heap[VB]? = some (.cells (nrow x).toArray 146)) (hne : VB ≠ g) (hl : l.length ≤ 256) (hi : i < l.length) (hroom : l.length + 1 ≤ cap) (hbase : base ≤ w.heap.size) :
    Calls Tryz.prog 177 #[.slice (some ⟨g, 0, none⟩) l.length cap, .int .i64 i, .slice (some ⟨VB, 0, none⟩) 1 1] w fun e w' => ∃ v', e = .returned v' ∧ OwnN w' base 146 v' (insN l i x) ∧ w.grownBy w' (some g) ∧ Near w (.slice (some ⟨g, 0, none⟩) l.length cap) v' := by
  obtain ⟨cur, hh, hbg, hnc, hmx, hsz, htk, hll⟩ := hv.2.blk
  have HV : Hid (OwnN w base 146 (.slice (some ⟨g, 0, none⟩) l.length cap) l ∧ (OctL x.1 ∧ x.1.length ≤ 140737488355328 ∧ In64 x.2)) := ⟨hv, hx⟩
  clear hv hx
  have hsize : (Tryz.prog.info? 146).map (·.size) = some 2 := by
    obtain ⟨i0, hi0, hz0, hz1, hz2⟩ := info_some Tryz.info146
    rw [hi0]
    simp [hz1]
  have hov : ∀ lb cb, (callFunc 203 #[.slice (some ⟨VB, 0, none⟩) 1 1, .slice (some ⟨g, (i + 1) * 2, none⟩) lb cb]).run Tryz.prog w = .ok (.value (.bool false)) w := fun lb cb => by
    rw [run_callFunc_extern Tryz.func203 (by kernel_rfl) (by kernel_rfl) (by kernel_rfl) (e := Extern.SlicesOverlaps.overlaps #[33, 33] #[4]) (by kernel_rfl),
      Lib.run_overlaps_apart w 33 4 146 Tryz.underlying33 2 Tryz.sizeOf146 ⟨VB, 0, none⟩ ⟨g, (i + 1) * 2, none⟩ 1 1 lb cb hne 146 146 2 cur.size (by simp [World.shape?, hb, nrow]) (by simp [World.shape?, hh]) (by rw [hsz]; omega) (blk_frozen hb 0) (blk_frozen hb 2)]
    rfl
  obtain ⟨tail, htail⟩ : ∃ tail, tail = ((l.map nrow).drop i).flatten := ⟨_, rfl⟩
  have htl : tail.length = (l.length - i) * 2 := by
    rw [htail, flat_rows (sz := 2) _ (fun cs hcs => nrow_len l cs (List.mem_of_mem_drop hcs)), List.length_drop, List.length_map]
  have ht1 : ∀ u ∈ tail, u.oneCell' = true := by
    intro u hu
    rw [htail] at hu
    obtain ⟨cs, q1, q2⟩ := List.mem_flatten.1 hu
    exact nrow_one l cs (List.mem_of_mem_drop q1) u q2
  have hcells : ∀ j u, tail[j]? = some u → w.drew.cell? ((⟨g, i * 2, none⟩ : Addr).add j) = some u := by
    intro j u hj
    rw [Addr.add_lit]
    refine blk_cell (w := w.drew) hh _ u ?_
    have e1 : tail = ((l.map nrow).flatten).drop (i * 2) := by rw [htail, flat_drop _ (nrow_len l)]
    rw [e1, ← htk, List.getElem?_drop, List.getElem?_take] at hj
    split at hj
    · simpa using hj
    · cases hj
  have hfit1 : (i + 1) * 2 + tail.length ≤ cur.size := by rw [hsz, htl]; omega
  have hcp1 := fun ty dc sc => run_copy_rows w.drew 33 33 ty 146 2 g ((i + 1) * 2) (l.length - i) dc ⟨g, i * 2, none⟩ (l.length + 1 - i) sc cur 146 tail Tryz.underlying33 hsize hh (by rw [htl]; simp only [Nat.min_def]; split <;> omega) hcells hfit1 ht1
  obtain ⟨W, hW⟩ : ∃ W, W = w.drew.setRow g (over cur.toList ((i + 1) * 2) tail).toArray := ⟨_, rfl⟩
  have bw := blk_setRow (w := w.drew) hh (over cur.toList ((i + 1) * 2) tail).toArray
  rw [← hW] at bw hcp1
  have hsz2 : (over cur.toList ((i + 1) * 2) tail).toArray.size = cap * 2 := by
    have := over_len cur.toList ((i + 1) * 2) tail (by simpa using hfit1)
    simpa [hsz] using this
  have hb2 : W.heap[VB]? = some (.cells (nrow x).toArray 146) := blk_grown (w := w.drew) hb bw.2 (by intro q; injection q with q; exact hne q)
  have hcp2 := fun ty dc => run_copy_rows W 33 33 ty 146 2 g (i * 2) (l.length + 1 - i) dc ⟨VB, 0, none⟩ 1 1 _ 146 (nrow x) Tryz.underlying33 hsize bw.1 (by simp only [Nat.min_def]; split <;> first | rfl | omega) (by
      intro j u hj
      rw [Addr.add_lit, Nat.zero_add]
      exact blk_cell hb2 j u (by simpa using hj)) (by rw [hsz2]; simp [nrow]; omega) (nrow_oneL x)
  obtain ⟨V, hV⟩ : ∃ V, V = W.setRow g (over (over cur.toList ((i + 1) * 2) tail).toArray.toList (i * 2) (nrow x)).toArray := ⟨_, rfl⟩
  have bv := blk_setRow bw.1 (over (over cur.toList ((i + 1) * 2) tail).toArray.toList (i * 2) (nrow x)).toArray
  rw [← hV] at bv hcp2
  have HO : Hid (OwnN V base 146 (.slice (some ⟨g, 0, none⟩) (l.length + 1) cap) (insN l i x) ∧ w.grownBy V (some g)) := by
    refine ⟨⟨fun p hp => ?_, ?_⟩, grown_trans (grown_trans (grown_up (up_dr (Below.refl _ _)) _) bw.2) bv.2⟩
    · rcases insN_mem hp with rfl | q
      · exact HV.out.2
      · exact HV.out.1.1 p q
    · refine own_of_blk (nrow_len _) bv.1 hbg (by omega) hmx ?_ ?_ (by rw [List.length_map, insN_len l i x (by omega)])
      · have := over_len (over cur.toList ((i + 1) * 2) tail).toArray.toList (i * 2) (nrow x) (by
          have := hsz2
          simp at this ⊢
          rw [this]
          simp [nrow]
          omega)
        simp at this ⊢
        rw [this]
        simpa using hsz2
      · have e0 : ∀ q : List Value, q.toArray.toList = q := fun q => by simp
        rw [e0, e0, insN_flat, ← htail]
        have e3 : ((l.map nrow).take i).flatten = cur.toList.take (i * 2) := by
          rw [← flat_take _ (nrow_len l) i, ← htk, List.take_take, Nat.min_eq_left (by omega)]
        rw [e3]
        have hcl : cur.toList.length = cap * 2 := by simpa using hsz
        unfold over
        have l1 : (cur.toList.take ((i + 1) * 2)).length = (i + 1) * 2 := by rw [List.length_take]; omega
        have a1 : (cur.toList.take ((i + 1) * 2) ++ tail ++ cur.toList.drop ((i + 1) * 2 + tail.length)).take (i * 2) = cur.toList.take (i * 2) := by
          rw [List.append_assoc, List.take_append_of_le_length (by omega), List.take_take, Nat.min_eq_left (by omega)]
        have a2 : (cur.toList.take ((i + 1) * 2) ++ tail ++ cur.toList.drop ((i + 1) * 2 + tail.length)).drop (i * 2 + (nrow x).length) = tail ++ cur.toList.drop ((i + 1) * 2 + tail.length) := by
          have : i * 2 + (nrow x).length = (i + 1) * 2 := by simp [nrow]; omega
          rw [this, List.append_assoc, List.drop_append_of_le_length (by omega), List.drop_of_length_le (by omega), List.nil_append]
        rw [a1, a2]
        have l2 : (cur.toList.take (i * 2)).length = i * 2 := by rw [List.length_take]; omega
        rw [← List.append_assoc, List.take_append_of_le_length (by rw [List.length_append, List.length_append, l2, htl]; simp [nrow]; omega), List.take_of_length_le (by rw [List.length_append, List.length_append, l2, htl]; simp [nrow]; omega), List.append_assoc]
  clear bw bv hcells ht1 htail hb2 hsz2 hfit1 hh hb htk hll hsz hV hW
  unfold maxLen at hmx
  have hw1 : IntKind.i64.wrap ((i : Int) + 1) = (i : Int) + 1 := by rw [IntKind.wrap_i64]; omega
  have hb1 : (0 : Int) ≤ (i : Int) + 1 := by omega
  have hin : i ≤ l.length := by omega
  have htn : ((i : Int) + 1).toNat = i + 1 := by omega
  have hb2 : ¬ (cap = i + 1) := by omega
  have hb3 : (i : Int) ≤ (l.length : Int) + 1 := by omega
  have hb4 : ¬ (cap = i) := by omega
  have hb5 : ¬ ((i : Int) = (l.length : Int)) := by omega
  have hb6 : ((i : Int) == (l.length : Int)) = false := by rw [beq_eq_false_iff_ne]; omega
  go_enter Tryz.func177, Tryz.ntmps177
  go_wp2_with (simp only [hov])
  go_region_law (refine step_known rfl (exec_copy (d := .tmp 73) (s := .tmp 76) (t := 33) (t' := 33) rfl (by simp [Act.eval, Act.put]) (by simp [Act.eval, Act.put]) (hcp1 _ _ _)) ?_)
  go_wp2_with (at_builtin; refine wpList_known _ rfl (exec_copy (d := .tmp 80) (s := .tmp 81) (t := 33) (t' := 33) rfl rfl rfl (hcp2 _ _)) ?_)
  go_ret
  exact ⟨_, rfl, HO.out.1, HO.out.2, .inl rfl⟩
theorem over_front (a b z : List Value) (hb : b.length ≤ z.length) : over (a ++ z) a.length b = a ++ b ++ z.drop b.length := by
  unfold over
  rw [List.take_append_of_le_length (Nat.le_refl _), List.take_of_length_le (Nat.le_refl _), List.drop_append]
  rw [List.drop_of_length_le (by omega), List.nil_append]
  congr 2
  omega
set_option maxHeartbeats 2000000 in
set_option maxRecDepth 20000 in
theorem insertGrow_any (l : List (List Int × Int)) (g i : Nat) (x : List Int × Int) (VB base : Nat) (w : World) (hv : OwnN w base 146 (.slice (some ⟨g, 0, none⟩) l.length l.length) l) (hx : OctL x.1 ∧ x.1.length ≤ 140737488355328 ∧ In64 x.2) (hb : w.heap[VB]? = some (.cells (nrow x).toArray 146)) (hl : l.length ≤ 256) (hi : i < l.length) (hbase : base ≤ w.heap.size) :
    Calls Tryz.prog 177 #[.slice (some ⟨g, 0, none⟩) l.length l.length, .int .i64 i, .slice (some ⟨VB, 0, none⟩) 1 1] w fun e w' => ∃ v', e = .returned v' ∧ OwnN w' base 146 v' (insN l i x) ∧ w.grownBy w' (some g) ∧ Near w (.slice (some ⟨g, 0, none⟩) l.length l.length) v' := by
  obtain ⟨cur, hh, hbg, hnc, hmx, hsz, htk, hll⟩ := hv.2.blk
  have HV : Hid (OwnN w base 146 (.slice (some ⟨g, 0, none⟩) l.length l.length) l ∧ (OctL x.1 ∧ x.1.length ≤ 140737488355328 ∧ In64 x.2)) := ⟨hv, hx⟩
  clear hv hx
  obtain ⟨i0, hi0, hz0, hz1, hz2⟩ := info_some Tryz.info146
  have hsize : (Tryz.prog.info? 146).map (·.size) = some 2 := by
    rw [hi0]
    simp [hz1]
  have hgl : g < w.heap.size := blk_lt hh
  have hVl : VB < w.heap.size := blk_lt hb
  obtain ⟨olds, holds⟩ : ∃ olds, olds = ((l.map nrow).take i).flatten := ⟨_, rfl⟩
  have hol : olds.length = i * 2 := by
    rw [holds, flat_rows (sz := 2) _ (fun cs hcs => nrow_len l cs (List.mem_of_mem_take hcs)), List.length_take, List.length_map]
    omega
  have hoc : ∀ j u, olds[j]? = some u → w.drew.cell? ((⟨g, 0, none⟩ : Addr).add j) = some u := by
    intro j u hj
    rw [Addr.add_lit, Nat.zero_add]
    refine blk_cell (w := w.drew) hh _ u ?_
    rw [holds, ← flat_take _ (nrow_len l) i, ← htk, List.take_take, List.getElem?_take] at hj
    split at hj
    · simpa using hj
    · cases hj
  have hfirst : (Builtin.firstCells i0.size i (.slice (some ⟨g, 0, none⟩) i l.length)).run Tryz.prog w.drew = .ok olds.toArray w.drew := run_firstCells_some w.drew i0.size i ⟨g, 0, none⟩ i l.length olds (by rw [hz1]; exact hol) hoc
  have hnx : Builtin.nextslicecap (i + (l.length + 1 - i)) l.length * i0.bytes ≤ 281474976710656 := by
    rw [hz2]
    exact growslice_fits_wide (by omega) (by omega)
  have hap := fun ty => Lib.run_append_grow_zeros (P := Tryz.prog) w 33 3 ty 146 i0 (.agg #[.string ⟨#[]⟩, .int .i64 0]) .i64 .i64 Tryz.underlying33 Tryz.underlying3 hi0 hz0 (some ⟨g, 0, none⟩) i l.length olds hfirst (l.length + 1 - i) (by omega) (by rw [hz1]; decide) (by omega) (by omega) (by rw [hz2]; omega) hnx
  have hge := grownCap_ge w (i + (l.length + 1 - i)) l.length 146
  have hle := grownCap_le_maxLen w (i + (l.length + 1 - i)) l.length 146 (by unfold maxLen; omega)
  generalize hC : grownCap w (i + (l.length + 1 - i)) l.length 146 = C at hap hge hle
  have ein : i + (l.length + 1 - i) = l.length + 1 := by omega
  rw [ein] at hap hge
  obtain ⟨zs, hzs⟩ : ∃ zs, zs = (Builtin.zeroCells (Value.agg #[.string ⟨#[]⟩, .int .i64 0]).cells (l.length + 1 - i) ++ Builtin.zeroCells (Value.agg #[.string ⟨#[]⟩, .int .i64 0]).cells (C - (l.length + 1))).toList := ⟨_, rfl⟩
  have hzl : zs.length = (C - i) * 2 := by
    rw [hzs]
    simp [Builtin.zeroCells, Value.cells]
    omega
  have ecell : olds.toArray ++ Builtin.zeroCells (Value.agg #[.string ⟨#[]⟩, .int .i64 0]).cells (l.length + 1 - i) ++ Builtin.zeroCells (Value.agg #[.string ⟨#[]⟩, .int .i64 0]).cells (C - (l.length + 1)) = (olds ++ zs).toArray := by
    rw [hzs]
    apply Array.toList_inj.1
    simp
  rw [ecell] at hap
  obtain ⟨w1, hw1⟩ : ∃ w1, w1 = w.drew.alloc (.cells (olds ++ zs).toArray 146) := ⟨_, rfl⟩
  have up1 : Below w.heap.size w w1 := by rw [hw1]; exact up_al (up_dr (Below.refl _ _)) _
  have b1 : w1.heap[w.heap.size]? = some (.cells (olds ++ zs).toArray 146) := by rw [hw1]; exact blk_new w.drew _
  rw [← hw1] at hap
  obtain ⟨N, hN⟩ : ∃ N, N = w.heap.size := ⟨_, rfl⟩
  rw [← hN] at hap b1
  have hb2 : w1.heap[VB]? = some (.cells (nrow x).toArray 146) := blk_up hb up1
  have hcp1 := fun ty dc => run_copy_rows w1 33 33 ty 146 2 N (i * 2) (l.length + 1 - i) dc ⟨VB, 0, none⟩ 1 1 _ 146 (nrow x) Tryz.underlying33 hsize b1 (by simp only [Nat.min_def]; split <;> first | rfl | omega) (by
      intro j u hj
      rw [Addr.add_lit, Nat.zero_add]
      exact blk_cell hb2 j u (by simpa using hj)) (by simp [hol, hzl, nrow]; omega) (nrow_oneL x)
  have e1 : over (olds ++ zs).toArray.toList (i * 2) (nrow x) = olds ++ nrow x ++ zs.drop 2 := by
    have := over_front olds (nrow x) zs (by rw [hzl]; simp [nrow]; omega)
    rw [hol] at this
    simpa [nrow] using this
  rw [e1] at hcp1
  obtain ⟨w2, hw2⟩ : ∃ w2, w2 = w1.setRow N (olds ++ nrow x ++ zs.drop 2).toArray := ⟨_, rfl⟩
  have b2 := blk_setRow b1 (olds ++ nrow x ++ zs.drop 2).toArray
  rw [← hw2] at hcp1 b2
  obtain ⟨tail, htail⟩ : ∃ tail, tail = ((l.map nrow).drop i).flatten := ⟨_, rfl⟩
  have htl : tail.length = (l.length - i) * 2 := by
    rw [htail, flat_rows (sz := 2) _ (fun cs hcs => nrow_len l cs (List.mem_of_mem_drop hcs)), List.length_drop, List.length_map]
  have ht1 : ∀ u ∈ tail, u.oneCell' = true := by
    intro u hu
    rw [htail] at hu
    obtain ⟨cs, q1, q2⟩ := List.mem_flatten.1 hu
    exact nrow_one l cs (List.mem_of_mem_drop q1) u q2
  have hg2 : w2.heap[g]? = some (.cells cur 146) := blk_grown (blk_up hh up1) b2.2 (by rw [hN]; intro q; injection q with q; omega)
  have hcells : ∀ j u, tail[j]? = some u → w2.drew.cell? ((⟨g, i * 2, none⟩ : Addr).add j) = some u := by
    intro j u hj
    rw [Addr.add_lit]
    refine blk_cell (w := w2.drew) hg2 _ u ?_
    have e1 : tail = ((l.map nrow).flatten).drop (i * 2) := by rw [htail, flat_drop _ (nrow_len l)]
    rw [e1, ← htk, List.getElem?_drop, List.getElem?_take] at hj
    split at hj
    · simpa using hj
    · cases hj
  have hcp2 := fun ty dc sc => run_copy_rows w2.drew 33 33 ty 146 2 N ((i + 1) * 2) (l.length - i) dc ⟨g, i * 2, none⟩ (l.length - i) sc _ 146 tail Tryz.underlying33 hsize b2.1 (by rw [htl]; simp only [Nat.min_def]; split <;> omega) hcells (by simp [hol, hzl, htl, nrow]; omega) ht1
  have e2 : over (olds ++ nrow x ++ zs.drop 2).toArray.toList ((i + 1) * 2) tail = olds ++ nrow x ++ tail ++ (zs.drop 2).drop tail.length := by
    have := over_front (olds ++ nrow x) tail (zs.drop 2) (by rw [htl, List.length_drop, hzl]; omega)
    rw [List.length_append, hol] at this
    have e3 : i * 2 + (nrow x).length = (i + 1) * 2 := by simp [nrow]; omega
    rw [e3] at this
    simpa using this
  rw [e2] at hcp2
  obtain ⟨w3, hw3⟩ : ∃ w3, w3 = w2.drew.setRow N (olds ++ nrow x ++ tail ++ (zs.drop 2).drop tail.length).toArray := ⟨_, rfl⟩
  have b3 := blk_setRow (w := w2.drew) b2.1 (olds ++ nrow x ++ tail ++ (zs.drop 2).drop tail.length).toArray
  rw [← hw3] at hcp2 b3
  have HO : Hid (OwnN w3 base 146 (.slice (some ⟨N, 0, none⟩) (l.length + 1) C) (insN l i x) ∧ w.grownBy w3 (some g) ∧ Near w (.slice (some ⟨g, 0, none⟩) l.length l.length) (.slice (some ⟨N, 0, none⟩) (l.length + 1) C)) := by
    refine ⟨⟨fun p hp => ?_, ?_⟩, ?_, ?_⟩
    · rcases insN_mem hp with rfl | q
      · exact HV.out.2
      · exact HV.out.1.1 p q
    · refine own_of_blk (nrow_len _) b3.1 (by omega) (by omega) hle ?_ ?_ (by rw [List.length_map, insN_len l i x (by omega)])
      · simp [hol, hzl, htl, nrow]
        omega
      · have e0 : ∀ q : List Value, q.toArray.toList = q := fun q => by simp
        rw [e0, insN_flat, ← htail, ← holds]
        rw [List.take_append_of_le_length (by simp [hol, htl, nrow]; omega), List.take_of_length_le (by simp [hol, htl, nrow]; omega), List.append_assoc]
    · have g2 := grown_up up1 (some N)
      have g3 : w.grownBy w3 (some N) := grown_trans (grown_trans g2 b2.2) (grown_trans (grown_up (up_dr (Below.refl _ _)) _) b3.2)
      exact ⟨g3.os, g3.tape, g3.output, g3.size, fun k hk hne => g3.block k hk (by rw [hN]; intro q; injection q with q; omega)⟩
    · refine .inr fun b hb => ?_
      simp [Value.ownBlock] at hb
      omega
  clear b1 b2 b3 hcells ht1 htail hb2 hh hb htk hll hsz hw1 hw2 hw3 hoc hfirst hnx e1 e2 ecell hg2 up1 holds hzs hC ein hgl hVl hN
  unfold maxLen at hmx hle
  have hwr : IntKind.i64.wrap ((i : Int) + 1) = (i : Int) + 1 := by rw [IntKind.wrap_i64]; omega
  have hb1 : (0 : Int) ≤ (i : Int) + 1 := by omega
  have hin : i ≤ l.length := by omega
  have htn : ((i : Int) + 1).toNat = i + 1 := by omega
  have hb2 : ¬ (C = i + 1) := by omega
  have hb2' : ¬ (C = i) := by omega
  have hb3 : (i : Int) ≤ (l.length : Int) + 1 := by omega
  have hb4 : ¬ (l.length = i) := by omega
  have hb5 : ¬ ((i : Int) = (l.length : Int)) := by omega
  have hb6 : ((i : Int) == (l.length : Int)) = false := by rw [beq_eq_false_iff_ne]; omega
  have hb7 : (l.length : Int) + 1 - (i : Int) = ((l.length + 1 - i : Nat) : Int) := by omega
  go_enter Tryz.func177, Tryz.ntmps177
  go_wp2_with (first | (at_builtin; refine Lib.wpList_append_run _ rfl (.tmp 34) (.tmp 39) _ _ rfl _ _ rfl rfl _ _ (hap _) ?_) | (at_builtin; refine wpList_known _ rfl (exec_copy (d := .tmp 43) (s := .tmp 44) (t := 33) (t' := 33) rfl rfl rfl (hcp1 _ _)) ?_))
  go_region_law (refine step_known rfl (exec_copy (d := .tmp 50) (s := .tmp 53) (t := 33) (t' := 33) rfl (by simp [Act.eval, Act.put]) (by simp [Act.eval, Act.put]) (hcp2 _ _ _)) ?_)
  go_wp2_with fail
  go_ret
  exact ⟨_, rfl, HO.out⟩
theorem insertN_any (l : List (List Int × Int)) (v : Value) (i : Nat) (x : List Int × Int) (VB base : Nat) (w : World) (hv : OwnN w base 146 v l) (hx : OctL x.1 ∧ x.1.length ≤ 140737488355328 ∧ In64 x.2) (hb : w.heap[VB]? = some (.cells (nrow x).toArray 146)) (hne : v.ownBlock ≠ some VB) (hl : l.length ≤ 256) (hi : i ≤ l.length) (hbase : base ≤ w.heap.size) :
    Calls Tryz.prog 177 #[v, .int .i64 i, .slice (some ⟨VB, 0, none⟩) 1 1] w fun e w' => ∃ v', e = .returned v' ∧ OwnN w' base 146 v' (insN l i x) ∧ w.grownBy w' v.ownBlock ∧ Near w v v' := by
  rcases Nat.lt_or_ge i l.length with c | c
  · obtain ⟨a, cap, ev, hcap, hmax⟩ := (NamesW.own hv).len
    have hshape : ∃ g, a = some ⟨g, 0, none⟩ := by
      rcases hv.2.2.2 with ⟨e2, e3⟩ | ⟨g, cap', cur, e2, _⟩
      · rw [List.length_map] at e3; omega
      · rw [e2] at ev
        simp at ev
        exact ⟨g, ev.1.symm⟩
    obtain ⟨g, rfl⟩ := hshape
    subst ev
    rcases Nat.lt_or_ge cap (l.length + 1) with d | d
    · obtain rfl : cap = l.length := by omega
      exact insertGrow_any l g i x VB base w hv hx hb hl c hbase
    · exact insertRoom_any l g cap i x VB base w hv hx hb (fun q => hne (by rw [q]; rfl)) hl c d hbase
  · obtain rfl : i = l.length := by omega
    exact insertEnd_any l v x VB base w hv hx hb hl hbase
end Go.Proofs.YtnchjlimkgbfpaaGreatDoor
