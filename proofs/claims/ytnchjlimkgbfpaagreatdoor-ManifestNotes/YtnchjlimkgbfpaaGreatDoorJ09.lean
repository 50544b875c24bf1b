/- The texts Q2, Q3, in this order. -/
import Derived.Test.YtnchjlimkgbfpaaGreatDoorJ08

namespace Go.Proofs.YtnchjlimkgbfpaaGreatDoor
open Go.RowKit
set_option linter.unusedVariables false
set_option maxRecDepth 20000
theorem look_set {w : World} {b : Nat} {ids : List Int} (h : SetW w b ids) {x : Int} (hx : In64 x) : (Instr.lookup 233 (.map (some b)) (.int .i64 x) true).run Tryz.prog w = .ok (.tuple #[.agg #[], .bool (ids.contains x)]) w := by
  obtain ⟨D, h1, h2, h3, h4⟩ := h
  have hz : (zeroValue 131).run Tryz.prog w = .ok (.agg #[]) w := by
    have : ∀ w, (zeroValue 131).run Tryz.prog w = .ok (.agg #[]) w := Tryz.zeroValue131
    exact this w
  obtain ⟨v, ps, hrun, hv⟩ := h1.look_ok (Maps.int_keyed Tryz.underlying3) Tryz.underlying233 hz unitElem_mk (Maps.keyOf_int_mk Tryz.underlying3 (wf_i64_of hx))
  obtain ⟨rfl, _⟩ := unitElem_inv hv
  rw [h4 x] at hrun
  exact hrun
theorem gone_any (id : Int) (hid : In64 id) (d y : Value) (ids : List Int) (mb NB : Nat) (w : World) (hs : SetW w mb ids) (hc : w.cell? ⟨NB, 0, none⟩ = some (.map (some mb))) :
    Calls Tryz.prog 150 #[.agg #[.int .i64 id, d, y], .pointer (some ⟨NB, 0, none⟩)] w fun e w' => e = .returned (.bool (!ids.contains id)) ∧ Below w.heap.size w w' := by
  have hl := look_set (hs.up (up_al (Below.refl _ _) (.cells #[.int .i64 id, d, y] 110))) hid
  have hn : NB < w.heap.size := World.block_lt_of_cell? w _ hc
  have hc2 : (w.alloc (.cells #[.int .i64 id, d, y] 110)).cell? ⟨NB, 0, none⟩ = some (.map (some mb)) := ((up_al (Below.refl _ _) _).cell (p := ⟨NB, 0, none⟩) hn).trans hc
  clear hs
  generalize ids.contains id = r at *
  go_enter Tryz.func150, Tryz.ntmps150
  go_wp2
  go_ret
  exact ⟨rfl, up_al (up_al (Below.refl _ _) _) _⟩
def RowsF (w : World) (v : Value) (m : List FRow) : Prop := Rws 3 w v (m.map frow) ∧ ∀ y ∈ m, (∃ a n c, y.1 = .slice a n c) ∧ In64 y.2.1
theorem RowsF.up {w w' : World} {v : Value} {m : List FRow} (h : RowsF w v m) (hb : Below w.heap.size w w') : RowsF w' v m := ⟨h.1.up hb, h.2⟩
theorem RowsF.at {w : World} {v : Value} {m : List FRow} (h : RowsF w v m) (k : Nat) (hk : k < m.length) :
    ∃ b off cap a n c, v = .slice (some ⟨b, off, none⟩) m.length cap ∧ m.length ≤ cap ∧ cap ≤ maxLen ∧ (m.getD k (undef, 0, [], 0)).1 = .slice a n c ∧ w.cell? ⟨b, off + k * 3, none⟩ = some (.int .i64 (m.getD k (undef, 0, [], 0)).2.1) ∧ w.cell? ⟨b, off + k * 3 + 1, none⟩ = some (.slice a n c) ∧
      w.cell? ⟨b, off + k * 3 + 2, none⟩ = some (.int .i64 (m.getD k (undef, 0, [], 0)).2.2.2) ∧ In64 (m.getD k (undef, 0, [], 0)).2.1 := by
  obtain ⟨b, off, cap, e, h1, h2, hc⟩ := h.1.at k (by rw [List.length_map]; exact hk)
  rw [List.length_map] at e h1
  have hr : (m.map frow).getD k [] = frow (m.getD k (undef, 0, [], 0)) := by simp [List.getD, hk]
  rw [hr] at hc
  have hm : m.getD k (undef, 0, [], 0) ∈ m := by simp [List.getD, hk]
  obtain ⟨⟨a, n, c, e1⟩, hi⟩ := h.2 _ hm
  have c1 := hc 1 _ rfl
  rw [e1] at c1
  exact ⟨b, off, cap, a, n, c, e, h1, h2, e1, hc 0 _ rfl, c1, hc 2 _ rfl, hi⟩
theorem RowsF.len {w : World} {v : Value} {m : List FRow} (h : RowsF w v m) : ∃ a cap, v = .slice a m.length cap ∧ m.length ≤ cap ∧ cap ≤ maxLen := by
  obtain ⟨a, cap, e, h1, h2⟩ := h.1.len
  rw [List.length_map] at e h1
  exact ⟨a, cap, e, h1, h2⟩
def goneP (ids : List Int) (y : FRow) : Bool := !ids.contains y.2.1
set_option maxHeartbeats 1000000 in
theorem indexF_any (m : List FRow) (v : Value) (ids : List Int) (mb NB : Nat) (w : World) (hv : RowsF w v m) (hs : SetW w mb ids) (hc : w.cell? ⟨NB, 0, none⟩ = some (.map (some mb))) :
    Calls Tryz.prog 179 #[v, .func (.func 150) #[] #[.pointer (some ⟨NB, 0, none⟩)]] w fun e w' => e = .returned (.int .i64 (placeOf (goneP ids) m)) ∧ Below w.heap.size w w' := by
  have HV : Hid (RowsF w v m ∧ SetW w mb ids ∧ w.cell? ⟨NB, 0, none⟩ = some (.map (some mb))) := ⟨hv, hs, hc⟩
  obtain ⟨a, cap, rfl, hcap, hmax⟩ := hv.len
  clear hv hs hc
  unfold maxLen at hmax
  go_enter Tryz.func179, Tryz.ntmps179
  go_wp2
  go_loopw [8] (fun i wr => ∃ k : Nat, k ≤ m.length ∧ i = .int .i64 k ∧ Hid (∀ y ∈ m.take k, goneP ids y = false) ∧ Hid (Below w.heap.size w wr)) (fun i _ => m.length - (intOf i).toNat)
  case atStart => exact ⟨0, Nat.zero_le _, rfl, (fun x hx => by simp at hx), Below.refl _ _⟩
  case round =>
    obtain ⟨k, hk, rfl, HK, up⟩ := hrel
    by_cases hlt : k < m.length
    · have hlt' : (k : Int) < (m.length : Int) := by omega
      obtain ⟨b, off, cap', au, nu, cu, e, _, _, e1, c0, c1, c2, hi⟩ := (HV.out.1.up up.out).at k hlt
      simp at e
      obtain ⟨rfl, rfl⟩ := e
      have HT : Hid (m.take (k + 1) = m.take k ++ [m.getD k (undef, 0, [], 0)]) := take_snoc m k _ hlt
      have hget : Hid (m[k]? = some (m.getD k (undef, 0, [], 0))) := by simp [Hid, List.getD, hlt]
      generalize m.getD k (undef, 0, [], 0) = y at *
      obtain ⟨yv, yi, yd, ys⟩ := y
      simp only at c0 c2 hi e1
      subst e1
      have hcl := fun W (hW : Below wr.heap.size wr W) => gone_any yi hi (.slice au nu cu) (.int .i64 ys) ids mb NB W (HV.out.2.1.up (up_trans up.out hW)) (((up_trans up.out hW).cell (World.block_lt_of_cell? w _ HV.out.2.2)).trans HV.out.2.2)
      have HC : Hid (∀ W, Below wr.heap.size wr W → Calls Tryz.prog 150 #[.agg #[.int .i64 yi, .slice au nu cu, .int .i64 ys], .pointer (some ⟨NB, 0, none⟩)] W fun e w' => e = .returned (.bool (!ids.contains yi)) ∧ Below W.heap.size W w') := hcl
      clear hcl
      cases d : goneP ids ((Value.slice au nu cu, yi, yd, ys) : FRow) with
      | true =>
        have HM : Hid (placeOf (goneP ids) m = (k : Int)) := placeOf_at _ m k _ hget.out d HK.out
        have d' : (!ids.contains yi) = true := d
        go_wp2_with fail
        refine (HC.out _ (Below.refl _ _)).mono ?_
        rintro e w1 ⟨rfl, hb1⟩
        have up1 : Hid (Below w.heap.size w w1) := up_trans up.out hb1
        rw [d']
        clear hb1 d d'
        go_wp2_with fail
        go_ret
        rw [HM.out]
        exact ⟨rfl, up1.out⟩
      | false =>
        have d' : (!ids.contains yi) = false := d
        have HK2 : Hid (∀ y ∈ m.take (k + 1), goneP ids y = false) := by
          rw [HT.out]
          intro p hp
          rcases List.mem_append.1 hp with h | h
          · exact HK.out p h
          · simp at h
            subst h
            exact d
        go_wp2_with fail
        refine (HC.out _ (Below.refl _ _)).mono ?_
        rintro e w1 ⟨rfl, hb1⟩
        have up1 : Hid (Below w.heap.size w w1) := up_trans up.out hb1
        rw [d']
        clear hb1 d d'
        go_wp2_with fail
        exact ⟨⟨k + 1, by omega, by go_num, HK2, up1⟩, by simp [intOf]; omega⟩
    · have hlt' : ¬ (k : Int) < (m.length : Int) := by omega
      obtain rfl : k = m.length := by omega
      have HM : Hid (placeOf (goneP ids) m = -1) := by
        have h := HK.out
        rw [List.take_length] at h
        exact placeOf_none _ m h
      go_wp2_with fail
      go_ret
      rw [HM.out]
      exact ⟨rfl, up.out⟩
end Go.Proofs.YtnchjlimkgbfpaaGreatDoor

namespace Go.Proofs.YtnchjlimkgbfpaaGreatDoor
open Go.RowKit
set_option linter.unusedVariables false
set_option maxRecDepth 20000
theorem OwnR.row3 {w : World} {base : Nat} {e : TypeId} {g n cap : Nat} {css : List (List Value)} (h : OwnR w base e 3 (.slice (some ⟨g, 0, none⟩) n cap) css) (hn : css.length = n) (j : Nat) (hj : j < n) (a b c : Value) :
    OwnR (((w.setCell ⟨g, j * 3, none⟩ a).setCell ⟨g, j * 3 + 1, none⟩ b).setCell ⟨g, j * 3 + 2, none⟩ c) base e 3 (.slice (some ⟨g, 0, none⟩) n cap) (css.set j [a, b, c]) ∧ w.grownBy (((w.setCell ⟨g, j * 3, none⟩ a).setCell ⟨g, j * 3 + 1, none⟩ b).setCell ⟨g, j * 3 + 2, none⟩ c) (some g) := by
  have h1 := h.set hn j hj 0 (by decide) a
  have h2 := h1.1.set (by simp [hn]) j hj 1 (by decide) b
  have h3 := h2.1.set (by simp [hn]) j hj 2 (by decide) c
  refine ⟨?_, grown_trans (grown_trans h1.2.1 h2.2.1) h3.2.1⟩
  have e3 : ∀ r : List Value, r.length = 3 → ((r.set 0 a).set 1 b).set 2 c = [a, b, c] := by
    intro r hr
    match r, hr with
    | [x, y, z], _ => rfl
  have hjl : j < css.length := by omega
  have e4 := e3 css[j] (h.1 _ (List.getElem_mem hjl))
  have h4 := h3.1
  simp only [List.getD_eq_getElem?_getD, List.set_set, List.getElem?_set, hjl] at h4
  simpa [hjl, e4] using h4
def stayP (ids : List Int) (y : FRow) : Bool := ids.contains y.2.1
theorem filter_take_snoc {A : Type} (p : A → Bool) (l : List A) (k : Nat) (d : A) (h : k < l.length) : (l.take (k + 1)).filter p = (l.take k).filter p ++ (if p (l.getD k d) then [l.getD k d] else []) := by
  rw [take_snoc l k d h, List.filter_append]
  congr 1
  by_cases q : p (l.getD k d) = true
  · rw [if_pos q, List.filter_cons_of_pos q]; rfl
  · rw [if_neg q, List.filter_cons_of_neg q]; rfl
theorem placeOf_cases {A : Type} (p : A → Bool) : ∀ (l : List A), (placeOf p l = -1 ∧ ∀ y ∈ l, p y = false) ∨ ∃ k : Nat, k < l.length ∧ placeOf p l = (k : Int) ∧ (∀ y ∈ l.take k, p y = false) ∧ ∀ d, p (l.getD k d) = true
  | [] => .inl ⟨rfl, fun y hy => by cases hy⟩
  | x :: l => by
    cases h : p x with
    | true => exact .inr ⟨0, by simp, by simp [placeOf, h], fun y hy => by simp at hy, fun d => by simpa using h⟩
    | false =>
      rcases placeOf_cases p l with ⟨e, ha⟩ | ⟨k, hk, e, ha, ht⟩
      · refine .inl ⟨by simp [placeOf, h, e], fun y hy => ?_⟩
        rcases List.mem_cons.1 hy with q | q
        · rw [q]; exact h
        · exact ha y q
      · refine .inr ⟨k + 1, by simpa using hk, ?_, fun y hy => ?_, fun d => by simpa using ht d⟩
        · simp only [placeOf, h, e, Bool.false_eq_true, if_false]
          rw [if_neg (by omega)]
          omega
        · rw [List.take_succ_cons] at hy
          rcases List.mem_cons.1 hy with q | q
          · rw [q]; exact h
          · exact ha y q
def Struck (w : World) (base : Nat) (v : Value) (ids : List Int) (m cur : List FRow) (i j : Nat) : Prop :=
  cur.length = m.length ∧ i = ((m.take j).filter (stayP ids)).length ∧ cur.take i = (m.take j).filter (stayP ids) ∧ cur.drop j = m.drop j ∧ OwnR w base 110 3 v (cur.map frow)
theorem struck_at {w : World} {base : Nat} {v : Value} {ids : List Int} {m cur : List FRow} {i j : Nat} (h : Struck w base v ids m cur i j) (hj : j < m.length) : cur.getD j (undef, 0, [], 0) = m.getD j (undef, 0, [], 0) := by
  have h1 := h.2.2.2.1
  have e := congrArg (fun l => l[0]?) h1
  simp only [List.getElem?_drop, Nat.add_zero] at e
  simp only [List.getD, e]
theorem struck_skip {w : World} {base : Nat} {v : Value} {ids : List Int} {m cur : List FRow} {i j : Nat} (h : Struck w base v ids m cur i j) (hj : j < m.length) (hp : stayP ids (m.getD j (undef, 0, [], 0)) = false) : Struck w base v ids m cur i (j + 1) := by
  obtain ⟨h1, h2, h3, h4, h5⟩ := h
  have e := filter_take_snoc (stayP ids) m j (undef, 0, [], 0) hj
  rw [hp] at e
  simp only [Bool.false_eq_true, if_false, List.append_nil] at e
  refine ⟨h1, by rw [e]; exact h2, by rw [e]; exact h3, ?_, h5⟩
  have := congrArg (List.drop 1) h4
  simpa [List.drop_drop] using this
theorem struck_keep {w w' : World} {base : Nat} {v : Value} {ids : List Int} {m cur : List FRow} {i j : Nat} (h : Struck w base v ids m cur i j) (hj : j < m.length) (hij : i < j) (hp : stayP ids (m.getD j (undef, 0, [], 0)) = true)
    (hw : OwnR w' base 110 3 v ((cur.map frow).set i (frow (m.getD j (undef, 0, [], 0))))) : Struck w' base v ids m (cur.set i (m.getD j (undef, 0, [], 0))) (i + 1) (j + 1) := by
  obtain ⟨h1, h2, h3, h4, h5⟩ := h
  have e := filter_take_snoc (stayP ids) m j (undef, 0, [], 0) hj
  rw [hp] at e
  simp only [if_true] at e
  refine ⟨by simpa using h1, by rw [e, List.length_append, ← h2]; rfl, ?_, ?_, ?_⟩
  · rw [e, ← h3]
    have hi : i < cur.length := by omega
    rw [take_snoc _ i (undef, 0, [], 0) (by simpa using hi), List.take_set_of_le (Nat.le_refl _)]
    congr 1
    simp [List.getD, hi]
  · rw [List.drop_set_of_lt (by omega)]
    have := congrArg (List.drop 1) h4
    simpa [List.drop_drop] using this
  · rw [List.map_set]
    exact hw
theorem blk_set_ne {w : World} {base : Nat} {e : TypeId} {sz : Nat} {v : Value} {css : List (List Value)} {b : Nat} {ids : List Int} (h : OwnR w base e sz v css) (hs : SetW w b ids) : v.ownBlock = none ∨ v.ownBlock ≠ some b := by
  obtain ⟨D, ⟨es, clock, hh, _⟩, _⟩ := hs
  rcases h.2.2 with ⟨rfl, _⟩ | ⟨g, cap, cur, rfl, _, hg, _⟩
  · exact .inl rfl
  · refine .inr ?_
    simp only [Value.ownBlock]
    intro q
    injection q with q
    subst q
    rw [hg] at hh
    simp at hh
set_option maxHeartbeats 2000000 in
theorem deleteF_any (m : List FRow) (v : Value) (ids : List Int) (mb NB base : Nat) (w : World) (hv : OwnR w base 110 3 v (m.map frow)) (hsh : ∀ y ∈ m, (∃ a n c, y.1 = .slice a n c) ∧ In64 y.2.1) (hl : m.length ≤ 256) (hs : SetW w mb ids) (hc : w.cell? ⟨NB, 0, none⟩ = some (.map (some mb)))
    (hNB : v.ownBlock ≠ some NB) (hbase : base ≤ w.heap.size) :
    Calls Tryz.prog 149 #[v, .func (.func 150) #[] #[.pointer (some ⟨NB, 0, none⟩)]] w fun e w' => ∃ v', e = .returned v' ∧ OwnR w' base 110 3 v' ((m.filter (stayP ids)).map frow) ∧ w.grownBy w' v.ownBlock ∧ v'.ownBlock = v.ownBlock := by
  have HI : Hid (Calls Tryz.prog 179 #[v, .func (.func 150) #[] #[.pointer (some ⟨NB, 0, none⟩)]] w fun e w' => e = .returned (.int .i64 (placeOf (goneP ids) m)) ∧ Below w.heap.size w w') := indexF_any m v ids mb NB w ⟨Rws.own hv, hsh⟩ hs hc
  have HV : Hid (OwnR w base 110 3 v (m.map frow) ∧ (∀ y ∈ m, (∃ a n c, y.1 = .slice a n c) ∧ In64 y.2.1) ∧ SetW w mb ids ∧ w.cell? ⟨NB, 0, none⟩ = some (.map (some mb)) ∧ v.ownBlock ≠ some NB) := ⟨hv, hsh, hs, hc, hNB⟩
  obtain ⟨a, cap, ev, hcap, hmax⟩ := (Rws.own hv).len
  rw [List.length_map] at ev hcap
  clear hv hsh hs hc hNB
  unfold maxLen at hmax
  rcases placeOf_cases (goneP ids) m with ⟨e1, hall⟩ | ⟨k, hk, e1, hall, ht⟩
  · have HF : Hid (m.filter (stayP ids) = m) := by
      refine List.filter_eq_self.2 fun y hy => ?_
      have := hall y hy
      unfold goneP at this
      unfold stayP
      simpa using this
    rw [e1] at HI
    clear e1 hall
    subst ev
    go_enter Tryz.func149, Tryz.ntmps149
    go_wp2_with fail
    refine HI.out.mono ?_
    rintro e w1 ⟨rfl, hb1⟩
    have up1 : Hid (Below w.heap.size w w1) := hb1
    clear hb1
    go_wp2_with fail
    go_ret
    refine ⟨_, rfl, ?_, grown_up up1.out _, rfl⟩
    rw [HF.out]
    exact HV.out.1.up up1.out
  · rw [e1] at HI
    have hshape : ∃ g, a = some ⟨g, 0, none⟩ := by
      rcases HV.out.1.2.2 with ⟨e2, e3⟩ | ⟨g, cap', cur, e2, _⟩
      · rw [List.length_map] at e3; omega
      · rw [e2] at ev
        simp at ev
        exact ⟨g, ev.1.symm⟩
    obtain ⟨g, rfl⟩ := hshape
    subst ev
    have hob : Value.ownBlock (.slice (some ⟨g, 0, none⟩) m.length cap) = some g := rfl
    have HSt : Hid (Struck w base (.slice (some ⟨g, 0, none⟩) m.length cap) ids m m k (k + 1)) := by
      have ef : (m.take (k + 1)).filter (stayP ids) = m.take k := by
        rw [filter_take_snoc (stayP ids) m k (undef, 0, [], 0) hk]
        have h1 : stayP ids (m.getD k (undef, 0, [], 0)) = false := by
          have := ht (undef, 0, [], 0)
          unfold goneP at this
          unfold stayP
          simpa using this
        rw [h1]
        simp only [Bool.false_eq_true, if_false, List.append_nil]
        refine List.filter_eq_self.2 fun y hy => ?_
        have := hall y hy
        unfold goneP at this
        unfold stayP
        simpa using this
      exact ⟨rfl, by simp only [ef, List.length_take]; omega, by rw [ef], rfl, HV.out.1⟩
    clear e1 hall ht
    go_enter Tryz.func149, Tryz.ntmps149
    go_wp2_with fail
    refine HI.out.mono ?_
    rintro e w1 ⟨rfl, hb1⟩
    have up1 : Hid (Below w.heap.size w w1) := hb1
    have hk1 : ((k : Int) == -1) = false := by rw [beq_eq_false_iff_ne]; omega
    clear hb1 HI
    go_wp2_with fail
    go_loopw [5, 6] (fun si sj wr => ∃ (i j : Nat) (cur : List FRow), i < j ∧ j ≤ m.length ∧ si = .int .i64 i ∧ sj = .int .i64 j ∧ Hid (Struck wr base (.slice (some ⟨g, 0, none⟩) m.length cap) ids m cur i j) ∧ Hid (w.grownBy wr (some g))) (fun _ j _ => m.length - (intOf j).toNat)
    case atStart =>
      obtain ⟨h1, h2, h3, h4, h5⟩ := HSt.out
      exact ⟨k, k + 1, m, by omega, by omega, rfl, by go_num, ⟨h1, h2, h3, h4, h5.up up1.out⟩, grown_up up1.out _⟩
    case round =>
      clear HSt up1
      obtain ⟨i, j, cur, hij, hjm, rfl, rfl, HS, HG⟩ := hrel
      by_cases hlt : j < m.length
      · have hlt' : (j : Int) < (m.length : Int) := by omega
        have hcl := HS.out.1
        have hlc : (cur.map frow).length = m.length := by rw [List.length_map]; exact hcl
        have HO : Hid (OwnR wr base 110 3 (.slice (some ⟨g, 0, none⟩) m.length cap) (cur.map frow)) := HS.out.2.2.2.2
        have HAt : Hid (cur.getD j (undef, 0, [], 0) = m.getD j (undef, 0, [], 0)) := struck_at HS.out hlt
        have hmem : m.getD j (undef, 0, [], 0) ∈ m := by simp [List.getD, hlt]
        obtain ⟨⟨au, nu, cu, e1⟩, hin⟩ := HV.out.2.1 _ hmem
        obtain ⟨b', off', cap', e2, _, _, hc⟩ := (Rws.own HO.out).at j (by rw [hlc]; exact hlt)
        rw [hlc] at e2
        simp at e2
        obtain ⟨⟨rfl, rfl⟩, rfl⟩ := e2
        have hrow : (cur.map frow).getD j [] = frow (m.getD j (undef, 0, [], 0)) := by
          rw [← HAt.out]
          have : j < cur.length := by omega
          simp [List.getD, this]
        rw [hrow] at hc
        have c0 := hc 0 _ rfl
        have c1 := hc 1 _ rfl
        have c2 := hc 2 _ rfl
        simp only [Nat.zero_add, Nat.add_zero] at c0 c1 c2
        obtain ⟨b', off', cap', e2, _, _, hci⟩ := (Rws.own HO.out).at i (by rw [hlc]; omega)
        rw [hlc] at e2
        simp at e2
        obtain ⟨⟨rfl, rfl⟩, rfl⟩ := e2
        have hrl : ((cur.map frow).getD i []).length = 3 := HO.out.1 _ (by
          have : i < cur.length := by omega
          rw [List.getD_eq_getElem?_getD, List.getElem?_eq_getElem (by simpa using this)]
          exact List.getElem_mem _)
        obtain ⟨z0, z1, z2, ez⟩ : ∃ z0 z1 z2, (cur.map frow).getD i [] = [z0, z1, z2] := by
          match h : (cur.map frow).getD i [], hrl with
          | [x, y, z], _ => exact ⟨x, y, z, rfl⟩
        rw [ez] at hci
        have d0 := hci 0 _ rfl
        have d1 := hci 1 _ rfl
        have d2 := hci 2 _ rfl
        simp only [Nat.zero_add, Nat.add_zero] at d0 d1 d2
        have st := fun a b c => OwnR.row3 HO.out hlc i (by omega) a b c
        have fz : ∀ q, wr.frozen? ⟨g, q, none⟩ = false := fun q => by
          obtain ⟨cur', hh, _⟩ := HO.out.blk
          exact blk_frozen hh q
        have hnb : g ≠ NB := fun q => HV.out.2.2.2.2 (by rw [← q]; rfl)
        have hmb : some mb ≠ some g := fun q => by
          have := blk_set_ne HV.out.1 HV.out.2.2.1
          simp [Value.ownBlock] at this
          injection q with q
          exact this q.symm
        have HSet : Hid (SetW wr mb ids ∧ wr.cell? ⟨NB, 0, none⟩ = some (.map (some mb))) := ⟨HV.out.2.2.1.kept HG.out hmb, HG.out.cell HV.out.2.2.2.1 (by intro q; injection q with q; exact hnb q.symm)⟩
        have HSkip : Hid (stayP ids (m.getD j (undef, 0, [], 0)) = false → Struck wr base (.slice (some ⟨g, 0, none⟩) m.length cap) ids m cur i (j + 1)) := struck_skip HS.out hlt
        have HKeep : Hid (stayP ids (m.getD j (undef, 0, [], 0)) = true → ∀ w', OwnR w' base 110 3 (.slice (some ⟨g, 0, none⟩) m.length cap) ((cur.map frow).set i (frow (m.getD j (undef, 0, [], 0)))) → Struck w' base (.slice (some ⟨g, 0, none⟩) m.length cap) ids m (cur.set i (m.getD j (undef, 0, [], 0))) (i + 1) (j + 1)) := fun h w' ho => struck_keep HS.out hlt hij h ho
        clear hc hci hrow hmem hrl ez st
        generalize m.getD j (undef, 0, [], 0) = y at *
        obtain ⟨yv, yi, yd, ys⟩ := y
        simp only at c0 c1 c2 hin e1
        subst e1
        obtain ⟨wx, hwx⟩ : ∃ wx, wx = wr.alloc (.cells #[.int .i64 yi, .slice au nu cu, .int .i64 ys] 110) := ⟨_, rfl⟩
        have upx : Hid (Below wr.heap.size wr wx) := by rw [hwx]; exact up_al (Below.refl _ _) _
        have HX : Hid (wr.alloc (.cells #[.int .i64 yi, .slice au nu cu, .int .i64 ys] 110) = wx) := hwx.symm
        have x0 : wx.cell? ⟨wr.heap.size, 0, none⟩ = some (.int .i64 yi) := by rw [hwx]; exact World.cell?_alloc_new wr #[.int .i64 yi, .slice au nu cu, .int .i64 ys] 110 0
        have x1 : wx.cell? ⟨wr.heap.size, 1, none⟩ = some (.slice au nu cu) := by rw [hwx]; exact World.cell?_alloc_new wr #[.int .i64 yi, .slice au nu cu, .int .i64 ys] 110 1
        have x2 : wx.cell? ⟨wr.heap.size, 2, none⟩ = some (.int .i64 ys) := by rw [hwx]; exact World.cell?_alloc_new wr #[.int .i64 yi, .slice au nu cu, .int .i64 ys] 110 2
        have hcl2 := gone_any yi hin (.slice au nu cu) (.int .i64 ys) ids mb NB wx (HSet.out.1.up upx.out) ((upx.out.cell (World.block_lt_of_cell? wr _ HSet.out.2)).trans HSet.out.2)
        clear hwx
        go_upto_region 8 with fail
        rw [HX.out]
        cases hst : ids.contains yi with
        | false =>
          rw [hst] at hcl2
          have HS2 : Hid (Struck wr base (.slice (some ⟨g, 0, none⟩) m.length cap) ids m cur i (j + 1)) := HSkip.out hst
          go_wp2_with fail
          refine hcl2.mono ?_
          rintro e w1 ⟨rfl, hb1⟩
          have up1 : Hid (Below wr.heap.size wr w1) := up_trans upx.out hb1
          have HS3 : Hid (Struck w1 base (.slice (some ⟨g, 0, none⟩) m.length cap) ids m cur i (j + 1)) := ⟨HS2.out.1, HS2.out.2.1, HS2.out.2.2.1, HS2.out.2.2.2.1, HS2.out.2.2.2.2.up up1.out⟩
          clear hb1 hcl2 c0 c1 c2 d0 d1 d2 x0 x1 x2 fz
          go_wp2_with fail
          exact ⟨⟨i, j + 1, cur, by omega, by omega, rfl, by go_num, HS3, grown_trans HG.out (grown_up up1.out _)⟩, by simp [intOf]; omega⟩
        | true =>
          rw [hst] at hcl2
          go_wp2_with fail
          refine hcl2.mono ?_
          rintro e w1 ⟨rfl, hb1⟩
          have up1 : Hid (Below wr.heap.size wr w1) := up_trans upx.out hb1
          have y0 := (hb1.cell (World.block_lt_of_cell? wx _ x0)).trans x0
          have y1 := (hb1.cell (World.block_lt_of_cell? wx _ x1)).trans x1
          have y2 := (hb1.cell (World.block_lt_of_cell? wx _ x2)).trans x2
          have k0 := (up1.out.cell (World.block_lt_of_cell? wr _ d0)).trans d0
          have k1 := (up1.out.cell (World.block_lt_of_cell? wr _ d1)).trans d1
          have k2 := (up1.out.cell (World.block_lt_of_cell? wr _ d2)).trans d2
          have f0 := (up1.out.frozen (p := ⟨g, i * 3, none⟩) (World.block_lt_of_cell? wr _ d0)).trans (fz _)
          have f1 := (up1.out.frozen (p := ⟨g, i * 3 + 1, none⟩) (World.block_lt_of_cell? wr _ d1)).trans (fz _)
          have f2 := (up1.out.frozen (p := ⟨g, i * 3 + 2, none⟩) (World.block_lt_of_cell? wr _ d2)).trans (fz _)
          have r3 := OwnR.row3 (HO.out.up up1.out) hlc i (by omega) (.int .i64 yi) (.slice au nu cu) (.int .i64 ys)
          have HS3 : Hid (Struck (((w1.setCell ⟨g, i * 3, none⟩ (.int .i64 yi)).setCell ⟨g, i * 3 + 1, none⟩ (.slice au nu cu)).setCell ⟨g, i * 3 + 2, none⟩ (.int .i64 ys)) base (.slice (some ⟨g, 0, none⟩) m.length cap) ids m (cur.set i (.slice au nu cu, yi, yd, ys)) (i + 1) (j + 1)) := HKeep.out hst _ r3.1
          have HG3 : Hid (w.grownBy (((w1.setCell ⟨g, i * 3, none⟩ (.int .i64 yi)).setCell ⟨g, i * 3 + 1, none⟩ (.slice au nu cu)).setCell ⟨g, i * 3 + 2, none⟩ (.int .i64 ys)) (some g)) := grown_trans (grown_trans HG.out (grown_up up1.out _)) r3.2
          have hii : (i : Int) < (m.length : Int) := by omega
          clear hb1 hcl2 c0 c1 c2 d0 d1 d2 x0 x1 x2 fz r3
          go_wp2_with fail
          exact ⟨⟨i + 1, j + 1, _, by omega, by omega, by go_num, by go_num, HS3, HG3⟩, by simp [intOf]; omega⟩
      · have hlt' : ¬ (j : Int) < (m.length : Int) := by omega
        obtain rfl : j = m.length := by omega
        have hlc : (cur.map frow).length = m.length := by rw [List.length_map]; exact HS.out.1
        obtain ⟨cu, hh, hbg, hnc, hmx, hsz, _, _⟩ := HS.out.2.2.2.2.blk
        have hfit : i * 3 + (m.length - i) * 3 ≤ cu.size := by rw [hsz]; omega
        have hz : ∀ w, (zeroValue 110).run Tryz.prog w = .ok (.agg #[.int .i64 0, .slice none 0 0, .int .i64 0]) w := Tryz.zeroValue110
        have hcl := fun ty c => run_clear_rows wr 32 110 ty (.agg #[.int .i64 0, .slice none 0 0, .int .i64 0]) Tryz.underlying32 hz (by decide) g (i * 3) (m.length - i) c (by omega) cu hh (by simpa [Value.cells] using hfit)
        generalize hzc : (Builtin.zeroCells (Value.agg #[.int .i64 0, .slice none 0 0, .int .i64 0]).cells (m.length - i)).toList = zs at hcl
        have hzl : zs.length = (m.length - i) * 3 := by rw [← hzc]; simp [Builtin.zeroCells, Value.cells]
        obtain ⟨wz, hwz⟩ : ∃ wz, wz = wr.setRow g (over cu.toList (i * 3) zs).toArray := ⟨_, rfl⟩
        have hrow := blk_setRow hh (over cu.toList (i * 3) zs).toArray
        rw [← hwz] at hrow hcl
        have HO : Hid (OwnR wz base 110 3 (.slice (some ⟨g, 0, none⟩) i cap) ((m.filter (stayP ids)).map frow)) := by
          have := HS.out.2.2.2.2.firstOver i (by omega) cu hh zs (by rw [hzl]; exact hfit) hrow.1
          rw [← List.map_take, HS.out.2.2.1, List.take_length] at this
          exact this
        have HG2 : Hid (w.grownBy wz (some g)) := grown_trans HG.out hrow.2
        have hin : (i : Int) ≤ (m.length : Int) := by omega
        have hne1 : ¬ cap = i := by omega
        clear hwz hrow hh hsz hfit hzc hzl
        go_wp2_with fail
        go_ret
        exact ⟨_, rfl, HO.out, HG2.out, rfl⟩
end Go.Proofs.YtnchjlimkgbfpaaGreatDoor
