/- The texts AMap, AChk, AChk2, in this order. -/
import Derived.Test.YtnchjlimkgbfpaaGreatDoorE15
import Derived.Test.YtnchjlimkgbfpaaGreatDoorE12
import Derived.Maps.OwnSet
import Derived.Deep.Cut

namespace Go.Proofs.YtnchjlimkgbfpaaGreatDoor
open Go.RowKit
set_option linter.unusedVariables false
set_option maxRecDepth 20000
def KeyW (R : Value → Option (DataW Unit × List MemPlace)) (w : World) (b : Nat) (ids : List Int) : Prop := ∃ D : DataW Unit, w.ownsMap Tryz.prog 3 R b ids.length D ∧ Maps.Tidy D ∧ Maps.size D = ids.length ∧ ∀ x, Maps.has D (.int .i64 x) = ids.contains x
def SetWE (w : World) (b : Nat) (ids : List Int) : Prop := KeyW unitElem w b ids
def CntW (w : World) (b : Nat) (ids : List Int) : Prop := KeyW (plainElem Tryz.prog 3) w b ids
theorem own_tightE {R : Value → Option (DataW Unit × List MemPlace)} {w : World} {b n : Nat} {D : DataW Unit} (h : w.ownsMap Tryz.prog 3 R b n D) : w.ownsMap Tryz.prog 3 R b (Maps.size D) D := by
  obtain ⟨es, clock, hb, F, hs, rfl⟩ := h
  exact ⟨es, clock, hb, F, by simp [Maps.size, length_sorted], rfl⟩
theorem KeyW.made (R) (w : World) : KeyW R (w.alloc (.map #[] 0)) w.heap.size [] :=
  ⟨.map [], World.ownsMap_made w Tryz.prog 3 R, Maps.tidy_empty, rfl, fun x => rfl⟩
theorem KeyW.lt {R} {w : World} {b : Nat} {ids : List Int} (h : KeyW R w b ids) : b < w.heap.size := by
  obtain ⟨D, h1, _⟩ := h
  exact h1.lt
theorem KeyW.up {R} {w w' : World} {b : Nat} {ids : List Int} (h : KeyW R w b ids) (hb : Below w.heap.size w w') : KeyW R w' b ids := by
  obtain ⟨D, ⟨es, clock, hh, r⟩, h2⟩ := h
  exact ⟨D, ⟨es, clock, (hb.block b (Array.getElem?_eq_some_iff.1 hh).1).trans hh, r⟩, h2⟩
theorem KeyW.put {R} {w' : World} {b : Nat} {ids : List Int} {x : Int} {D d : DataW Unit} (hx : In64 x) (h2 : Maps.Tidy D) (h3 : Maps.size D = ids.length) (h4 : ∀ y, Maps.has D (.int .i64 y) = ids.contains y)
    (h : w'.ownsMap Tryz.prog 3 R b (ids.length + 1) (D.put (.int .i64 x) d)) : KeyW R w' b (addId ids x) := by
  have hk : WideAt.IsKeyLit (.int .i64 x) := trivial
  have hsz : Maps.size (D.put (.int .i64 x) d) = (addId ids x).length := by
    rw [Maps.size_put h2, h4 x, h3]
    unfold addId
    split <;> simp
  refine ⟨D.put (.int .i64 x) d, ?_, h2.put hk _, hsz, fun y => ?_⟩
  · have := own_tightE h
    rw [hsz] at this
    exact this
  · by_cases e : y = x
    · subst e
      rw [Maps.has_put_same h2.isMap hk]
      unfold addId
      split <;> simp_all
    · rw [Maps.has_put_other (by intro q; injection q with _ q; exact e q), h4 y]
      unfold addId
      split
      · rfl
      · simp [e]
theorem KeyW.del {R} {w' : World} {b : Nat} {ids : List Int} {x : Int} {D : DataW Unit} (hn : ids.Nodup) (h2 : Maps.Tidy D) (h3 : Maps.size D = ids.length) (h4 : ∀ y, Maps.has D (.int .i64 y) = ids.contains y)
    (h : w'.ownsMap Tryz.prog 3 R b ids.length (D.del (.int .i64 x))) : KeyW R w' b (ids.erase x) := by
  have hsz : Maps.size (D.del (.int .i64 x)) = (ids.erase x).length := by
    have := Maps.size_del (k := .int .i64 x) h2
    rw [h4 x, h3] at this
    by_cases q : x ∈ ids
    · have q2 : ids.contains x = true := by simpa using q
      rw [q2] at this
      have := List.length_erase_of_mem q
      have : 0 < ids.length := List.length_pos_of_mem q
      simp at *
      omega
    · have q2 : ids.contains x = false := by simpa using q
      rw [q2] at this
      rw [List.erase_of_not_mem q]
      simpa using this
  refine ⟨D.del (.int .i64 x), ?_, h2.del _, hsz, fun y => ?_⟩
  · have := own_tightE h
    rw [hsz] at this
    exact this
  · by_cases e : y = x
    · subst e
      rw [Maps.has_del_same]
      symm
      simp [hn.mem_erase_iff]
    · rw [Maps.has_del_other (by intro q; injection q with _ q; exact e q), h4 y]
      rw [Bool.eq_iff_iff]
      simp [hn.mem_erase_iff, e]
theorem turned_below {w w' : World} {b n : Nat} (h : w.mapTurned w' b) (hb : n ≤ b) (hs : n ≤ w.heap.size) : Below n w w' := by
  have := h.grown
  exact (Below.refl _ _).grown this hs (by simp; omega)
theorem wpList_set_putE (w : World) {ops : Array Oper} {rest : List Oper} {o : Oper} {a : Act} {Q : Exit → Act → World → Prop} (hgd : o.guard = none) (m x v : Operand) (hop : o.op = Op.mapUpdate 233 m x v)
    (b : Nat) (ids : List Int) (hm : a.eval m = .map (some b)) (hs : SetWE w b ids) (hn : ids.length < maxLen) (id : Int) (hid : In64 id) (hx : a.eval x = .int .i64 id) (hv : a.eval v = .agg #[])
    (hK : ∀ w', SetWE w' b (addId ids id) → w.mapTurned w' b → wpList Tryz.prog ops Q rest (a.put o.dst undef) w') : wpList Tryz.prog ops Q (o :: rest) a w := by
  obtain ⟨D, h1, h2, h3, h4⟩ := hs
  refine wpList_mapUpdate_in w hgd m x v 233 hop 3 131 (Maps.int_keyed Tryz.underlying3) Tryz.underlying233 unitElem b ids.length D hm h1 hn _ _ (.int .i64 id) hx hv (Maps.keyOf_int_mk Tryz.underlying3 (wf_i64_of hid)) (.agg []) [] unitElem_mk ?_
  intro w' r1 r2
  exact hK w' (KeyW.put hid h2 h3 h4 r1) r2
theorem wpList_set_has (w : World) {ops : Array Oper} {rest : List Oper} {o : Oper} {a : Act} {Q : Exit → Act → World → Prop} (hgd : o.guard = none) (m x : Operand) (hop : o.op = Op.lookup 233 m x true)
    (b : Nat) (ids : List Int) (hm : a.eval m = .map (some b)) (hs : SetWE w b ids) (id : Int) (hid : In64 id) (hx : a.eval x = .int .i64 id)
    (hK : wpList Tryz.prog ops Q rest (a.put o.dst (.tuple #[.agg #[], .bool (ids.contains id)])) w) : wpList Tryz.prog ops Q (o :: rest) a w := by
  obtain ⟨D, h1, h2, h3, h4⟩ := hs
  refine wpList_lookup_own_unit w hgd m x 233 hop 3 131 (Maps.int_keyed Tryz.underlying3) Tryz.underlying233 (by kernel_rfl) b ids.length D hm h1 _ (.int .i64 id) hx (Maps.keyOf_int_mk Tryz.underlying3 (wf_i64_of hid)) ?_
  rw [h4 id]
  exact hK
theorem wpList_cnt_get (w : World) {ops : Array Oper} {rest : List Oper} {o : Oper} {a : Act} {Q : Exit → Act → World → Prop} (hgd : o.guard = none) (m x : Operand) (hop : o.op = Op.lookup 200 m x false)
    (b : Nat) (ids : List Int) (hm : a.eval m = .map (some b)) (hs : CntW w b ids) (id : Int) (hid : In64 id) (hx : a.eval x = .int .i64 id)
    (hK : ∀ c : Int, wpList Tryz.prog ops Q rest (a.put o.dst (.int .i64 c)) w) : wpList Tryz.prog ops Q (o :: rest) a w := by
  obtain ⟨D, h1, h2, h3, h4⟩ := hs
  refine wpList_lookup_own_int w hgd m x 200 hop 3 3 .i64 (Maps.int_keyed Tryz.underlying3) Tryz.underlying200 Tryz.underlying3 (by kernel_rfl) b ids.length D hm h1 _ (.int .i64 id) hx (Maps.keyOf_int_mk Tryz.underlying3 (wf_i64_of hid)) ?_
  intro c _ _
  exact hK c
theorem wpList_cnt_put (w : World) {ops : Array Oper} {rest : List Oper} {o : Oper} {a : Act} {Q : Exit → Act → World → Prop} (hgd : o.guard = none) (m x v : Operand) (hop : o.op = Op.mapUpdate 200 m x v)
    (b : Nat) (ids : List Int) (hm : a.eval m = .map (some b)) (hs : CntW w b ids) (hn : ids.length < maxLen) (id : Int) (hid : In64 id) (hx : a.eval x = .int .i64 id) (c : Int) (hc : In64 c) (hv : a.eval v = .int .i64 c)
    (hK : ∀ w', CntW w' b (addId ids id) → w.mapTurned w' b → wpList Tryz.prog ops Q rest (a.put o.dst undef) w') : wpList Tryz.prog ops Q (o :: rest) a w := by
  obtain ⟨D, h1, h2, h3, h4⟩ := hs
  refine wpList_mapUpdate_in w hgd m x v 200 hop 3 3 (Maps.int_keyed Tryz.underlying3) Tryz.underlying200 (plainElem Tryz.prog 3) b ids.length D hm h1 hn _ _ (.int .i64 id) hx hv (Maps.keyOf_int_mk Tryz.underlying3 (wf_i64_of hid)) (.lit (.int .i64 c)) [] (plainElem_int Tryz.underlying3 (wf_i64_of hc)) ?_
  intro w' r1 r2
  exact hK w' (KeyW.put hid h2 h3 h4 r1) r2
end Go.Proofs.YtnchjlimkgbfpaaGreatDoor

namespace Go.Proofs.YtnchjlimkgbfpaaGreatDoor
open Go.RowKit
set_option linter.unusedVariables false
set_option maxRecDepth 20000
set_option linter.unusedSimpArgs false
theorem ordM_lt (a b : Me) : decide (ordM a b < 0) = befM a b := by
  unfold ordM befM cmpI cmpS
  by_cases e : a.lvl = b.lvl
  · rw [if_pos e]
    rw [if_pos (by rw [if_neg (by omega), if_neg (by omega)])]
    by_cases z : a.lvl = 0
    · rw [if_pos z, if_pos z]
      by_cases h1 : b.id < a.id
      · simp [h1]
      · by_cases h2 : a.id < b.id <;> simp [h1, h2]
    · rw [if_neg z, if_neg z]
      cases h1 : Op.bytesLess a.low.toList b.low.toList
      · cases h2 : Op.bytesLess b.low.toList a.low.toList <;> simp
      · simp
  · rw [if_neg e]
    by_cases h1 : a.lvl < b.lvl
    · simp [h1]
    · have h2 : b.lvl < a.lvl := by omega
      simp [h1, h2]
def folM (a b : Me) : Bool := if a.lvl = b.lvl ∧ 0 < b.lvl then Op.bytesLess a.high.toList b.low.toList else decide (ordM a b < 0)
theorem folM_eq (p m : Me) (hp : leM p.low p.high = true) : folM p m = (befM p m && !(decide (0 < m.lvl) && (decide (p.lvl = m.lvl) && leM m.low p.high))) := by
  unfold folM
  by_cases h : p.lvl = m.lvl ∧ 0 < m.lvl
  · rw [if_pos h, decide_eq_true h.1, decide_eq_true h.2, Bool.true_and, Bool.true_and]
    have hb : befM p m = Op.bytesLess p.low.toList m.low.toList := by
      unfold befM
      rw [if_pos h.1, if_neg (by omega)]
    rw [hb]
    cases q : leM m.low p.high
    · have q2 := leM_not.1 q
      rw [q2, leM_lt hp q2]
      rfl
    · cases r : Op.bytesLess p.high.toList m.low.toList
      · simp
      · have := leM_not.2 r
        rw [q] at this
        cases this
  · rw [if_neg h, ordM_lt]
    have : (decide (0 < m.lvl) && (decide (p.lvl = m.lvl) && leM m.low p.high)) = false := by
      by_cases h1 : 0 < m.lvl
      · have h2 : ¬ p.lvl = m.lvl := fun e => h ⟨e, h1⟩
        simp [h2]
      · simp [h1]
    rw [this]
    simp
def idsM (l : List Me) : List Int := (l.map Me.id).foldl addId []
theorem idsM_snoc (l : List Me) (m : Me) : idsM (l ++ [m]) = addId (idsM l) m.id := by simp [idsM, List.foldl_append]
theorem fold_leE : ∀ (l acc : List Int), (l.foldl addId acc).length ≤ acc.length + l.length
  | [], acc => by simp
  | x :: l, acc => by
    have h1 := fold_leE l (addId acc x)
    have h2 : (addId acc x).length ≤ acc.length + 1 := by unfold addId; split <;> simp
    simp only [List.foldl_cons, List.length_cons]
    omega
theorem idsM_len (l : List Me) : (idsM l).length ≤ l.length := by
  have := fold_leE (l.map Me.id) []
  simpa [idsM] using this
theorem fold_full : ∀ (l acc : List Int), acc.Nodup → ((l.foldl addId acc).length = acc.length + l.length ↔ (acc ++ l).Nodup)
  | [], acc, h => by simp [h]
  | x :: l, acc, h => by
    simp only [List.foldl_cons, List.length_cons]
    by_cases q : acc.contains x = true
    · have e : addId acc x = acc := by unfold addId; rw [if_pos q]
      rw [e]
      have h1 := fold_leE l acc
      have h2 : ¬ (acc ++ x :: l).Nodup := by
        intro hn
        rw [List.nodup_append] at hn
        exact hn.2.2 x (by simpa using q) x (by simp) rfl
      exact ⟨fun k => by omega, fun k => absurd k h2⟩
    · have e : addId acc x = acc ++ [x] := by unfold addId; rw [if_neg q]
      rw [e]
      have hn : (acc ++ [x]).Nodup := by
        rw [List.nodup_append]
        refine ⟨h, by simp, fun a ha b hb => ?_⟩
        simp at hb
        subst hb
        intro e2
        subst e2
        exact q (by simpa using ha)
      have := fold_full l (acc ++ [x]) hn
      simp only [List.length_append, List.length_cons, List.length_nil, List.append_assoc, List.cons_append, List.nil_append] at this
      rw [← this]
      omega
theorem idsM_full (l : List Me) : (idsM l).length = l.length ↔ (l.map Me.id).Nodup := by
  have := fold_full (l.map Me.id) [] (by simp)
  simpa [idsM] using this
theorem fold_nodupE : ∀ (l acc : List Int), acc.Nodup → (l.foldl addId acc).Nodup
  | [], acc, h => h
  | x :: l, acc, h => by
    refine fold_nodupE l _ ?_
    unfold addId
    split
    · exact h
    · rename_i q
      rw [List.nodup_append]
      refine ⟨h, by simp, fun a ha b hb => ?_⟩
      simp at hb
      subst hb
      intro e2
      subst e2
      exact q (by simpa using ha)
theorem idsM_nodup (l : List Me) : (idsM l).Nodup := fold_nodupE _ _ (by simp)
theorem fold_mem : ∀ (l acc : List Int) (x : Int), x ∈ l.foldl addId acc ↔ x ∈ acc ∨ x ∈ l
  | [], acc, x => by simp
  | y :: l, acc, x => by
    rw [List.foldl_cons, fold_mem l]
    unfold addId
    split
    · rename_i q
      have : y ∈ acc := by simpa using q
      constructor
      · rintro (h | h)
        · exact .inl h
        · exact .inr (by simp [h])
      · rintro (h | h)
        · exact .inl h
        · rcases List.mem_cons.1 h with rfl | h
          · exact .inl this
          · exact .inr h
    · simp [or_assoc]
theorem idsM_mem (l : List Me) (x : Int) : x ∈ idsM l ↔ ∃ m ∈ l, m.id = x := by
  unfold idsM
  rw [fold_mem]
  simp
theorem allM_iff (next : Int) (ts : List Me) : allM next [] ts = true ↔ (∀ k m, ts[k]? = some m → headM next (lastM ts k) m = true) ∧ (ts.map Me.id).Nodup := by
  have hall : ∀ k (m : Me), (ts.take k).all (fun p => decide (p.id ≠ m.id)) = true ↔ ∀ j p, j < k → ts[j]? = some p → p.id ≠ m.id := by
    intro k m
    rw [List.all_eq_true]
    constructor
    · intro h j p hj hp
      have := h p (by
        rw [List.mem_take_iff_getElem]
        have q := List.getElem?_eq_some_iff.1 hp
        exact ⟨j, by have := q.1; omega, q.2⟩)
      simpa using this
    · intro h p hp
      rw [List.mem_take_iff_getElem] at hp
      obtain ⟨j, hj, rfl⟩ := hp
      simpa using h j _ (by omega) (List.getElem?_eq_getElem (by omega))
  constructor
  · intro h
    refine ⟨fun k m hm => ?_, ?_⟩
    · have := allM_at next ts [] h k m hm
      rw [List.nil_append, okM_eq next ts k (Nat.le_of_lt (List.getElem?_eq_some_iff.1 hm).1) m, Bool.and_eq_true] at this
      exact this.1
    · unfold List.Nodup
      rw [List.pairwise_map, List.pairwise_iff_getElem]
      intro i j hi hj hij
      have := allM_at next ts [] h j ts[j] (List.getElem?_eq_getElem hj)
      rw [List.nil_append, okM_eq next ts j (Nat.le_of_lt hj) _, Bool.and_eq_true] at this
      exact (hall j _).1 this.2 i ts[i] hij (List.getElem?_eq_getElem hi)
  · rintro ⟨h1, h2⟩
    refine allM_of next ts [] (fun k m hm => ?_)
    rw [List.nil_append, okM_eq next ts k (Nat.le_of_lt (List.getElem?_eq_some_iff.1 hm).1) m, Bool.and_eq_true]
    refine ⟨h1 k m hm, (hall k m).2 (fun j p hj hp => ?_)⟩
    unfold List.Nodup at h2
    rw [List.pairwise_map, List.pairwise_iff_getElem] at h2
    have q := List.getElem?_eq_some_iff.1 hp
    have r := List.getElem?_eq_some_iff.1 hm
    have := h2 j k q.1 r.1 hj
    rw [q.2, r.2] at this
    exact this
def HdrV (n : Nat) (seq next : Int) : Prop := n ≤ 256 ∧ 1 ≤ next ∧ next ≤ 2147483647 ∧ 0 ≤ seq ∧ seq ≤ 1099511627776
theorem errV_head {ts : List Me} {seq next : Int} {k : Nat} {m : Me} (hm : ts[k]? = some m) (h : headM next (lastM ts k) m = false) : errV ts seq next = 9 := by
  unfold errV chkV
  cases q : allM next [] ts
  · simp
  · have := ((allM_iff next ts).1 q).1 k m hm
    rw [h] at this
    cases this
theorem errV_twice {ts : List Me} {seq next : Int} (h : (idsM ts).length < ts.length) : errV ts seq next = 9 := by
  unfold errV chkV
  cases q : allM next [] ts
  · simp
  · have := (idsM_full ts).2 ((allM_iff next ts).1 q).2
    omega
theorem errV_fine {ts : List Me} {seq next : Int} (h0 : HdrV ts.length seq next) (h1 : ∀ k m, ts[k]? = some m → headM next (lastM ts k) m = true) (h2 : ¬ (idsM ts).length < ts.length) : errV ts seq next = 0 := by
  unfold HdrV at h0
  have := idsM_len ts
  unfold errV chkV
  rw [decide_eq_true h0, (allM_iff next ts).2 ⟨h1, (idsM_full ts).1 (by omega)⟩]
  rfl
set_option maxHeartbeats 2000000 in
set_option maxRecDepth 100000 in
theorem follows_any (a b : Me) (w : World) :
    Calls Tryz.prog 115 #[meV a, meV b] w fun e w' => e = .returned (.bool (folM a b)) ∧ Hid (Below w.heap.size w w') := by
  have HO : Hid (∀ w, Calls Tryz.prog 153 #[meV a, meV b] w fun e w' => e = .returned (.int .i64 (ordM a b)) ∧ w' = (w.alloc (meBox a)).alloc (meBox b)) := fun w => order_any a b w
  have HU : Hid (∀ W : World, Below w.heap.size w W → Below w.heap.size w ((W.alloc (meBox a)).alloc (meBox b))) := fun W h => up_al (up_al h _) _
  have HF : Hid (∀ r, folM a b = r → (if a.lvl = b.lvl ∧ 0 < b.lvl then Op.bytesLess a.high.toList b.low.toList else decide (ordM a b < 0)) = r) := fun r h => h
  generalize hR : folM a b = R at HF ⊢
  replace hR := HF.out R rfl
  clear HF
  obtain ⟨ai, al, ac, alo, ahi⟩ := a
  obtain ⟨bi, bl, bc, blo, bhi⟩ := b
  unfold meBox at HU HO
  simp only at hR HU HO
  generalize ordM ⟨ai, al, ac, alo, ahi⟩ ⟨bi, bl, bc, blo, bhi⟩ = O at *
  unfold meV at HO ⊢
  simp only at HO ⊢
  have HB0 : Hid (Below w.heap.size w ((w.alloc (.cells #[.int .i64 ai, .int .i64 al, .int .i64 ac, .string alo, .string ahi] 148)).alloc (.cells #[.int .i64 bi, .int .i64 bl, .int .i64 bc, .string blo, .string bhi] 148))) := up_al (up_alloc _ _) _
  have HRR : Hid ((if al = bl ∧ 0 < bl then Op.bytesLess ahi.toList blo.toList else decide (O < 0)) = R) := hR
  clear hR
  by_cases h1 : al = bl
  · have h1' : (al == bl) = true := by simp [h1]
    by_cases h2 : 0 < bl
    · have HR2 : Hid (Op.bytesLess ahi.toList blo.toList = R) := by have := HRR.out; rw [if_pos ⟨h1, h2⟩] at this; exact this
      clear HRR HO h1
      go_enter Tryz.func115, Tryz.ntmps115
      go_wp2_with fail
      go_ret
      exact ⟨by rw [← HR2.out]; rfl, HB0⟩
    · have HR2 : Hid (decide (O < 0) = R) := by have := HRR.out; rw [if_neg (fun q => h2 q.2)] at this; exact this
      clear HRR h1
      go_enter Tryz.func115, Tryz.ntmps115
      go_wp2_with fail
      refine (HO.out _).mono ?_
      rintro e w1 ⟨rfl, hw1⟩
      have HB1 := hid (HU.out _ HB0.out)
      rw [← hw1] at HB1
      clear hw1
      go_wp2_with fail
      go_ret
      exact ⟨by rw [← HR2.out]; rfl, HB1⟩
  · have h1' : (al == bl) = false := by simp [h1]
    have HR2 : Hid (decide (O < 0) = R) := by have := HRR.out; rw [if_neg (fun q => h1 q.1)] at this; exact this
    clear HRR
    go_enter Tryz.func115, Tryz.ntmps115
    go_wp2_with fail
    refine (HO.out _).mono ?_
    rintro e w1 ⟨rfl, hw1⟩
    have HB1 := hid (HU.out _ HB0.out)
    rw [← hw1] at HB1
    clear hw1
    go_wp2_with fail
    go_ret
    exact ⟨by rw [← HR2.out]; rfl, HB1⟩
end Go.Proofs.YtnchjlimkgbfpaaGreatDoor

namespace Go.Proofs.YtnchjlimkgbfpaaGreatDoor
open Go.RowKit
set_option linter.unusedVariables false
set_option maxRecDepth 20000
set_option linter.unusedSimpArgs false
theorem turned_blk {w w' : World} {b i : Nat} {o : Obj} (h : w.mapTurned w' b) (hi : i ≠ b) (hb : w.heap[i]? = some o) : w'.heap[i]? = some o := by
  have := h.grown.block i (Array.getElem?_eq_some_iff.1 hb).1 (by simp [hi])
  rw [this]; exact hb
theorem cnt_len {w : World} {b : Nat} {ids : List Int} (h : CntW w b ids) : (Builtin.len_ #[200] 3 #[.map (some b)]).run Tryz.prog w = .ok (.int .i64 (ids.length : Int)) w := by
  obtain ⟨D, h1, h2, h3, h4⟩ := h
  rw [h1.len Tryz.underlying200 3, h3]
def ChainM (next : Int) (ts : List Me) (k : Nat) : Prop := ∀ j m, j < k → ts[j]? = some m → headM next (lastM ts j) m = true
theorem ret35 {a b : Int} (h : a = b) : Ending.returned (Value.int IntKind.i64 a) = Ending.returned (Value.int IntKind.i64 b) := by rw [h]
set_option maxHeartbeats 8000000 in
set_option maxRecDepth 100000 in
theorem check_anyE (ts : List Me) (seq next : Int) (a : Option Addr) (n c : Nat) (w : World) (hv : MetsR w (.slice a n c) ts) :
    Calls Tryz.prog 71 #[.agg #[.slice a n c, .int .i64 seq, .int .i64 next]] w fun e w' => e = .returned (.int .i64 (errV ts seq next)) ∧ Hid (Below w.heap.size w w') := by
  obtain ⟨a', c', e', hc1, hc2⟩ := hv.len
  simp only [Value.slice.injEq] at e'
  obtain ⟨rfl, rfl, rfl⟩ := e'
  have hl63 : (ts.length : Int) ≤ 9223372036854775807 := by unfold maxLen at hc2; omega
  have HV : Hid (MetsR w (.slice a ts.length c) ts) := hv
  clear hv hc1 hc2
  have HU0 : Hid (Below w.heap.size w (w.alloc (.cells #[.slice a ts.length c, .int .i64 seq, .int .i64 next] 39))) := up_alloc _ _
  have W1 : Hid (∀ w, Calls Tryz.prog 113 #[.int .i64 next, .int .i64 1, .int .i64 2147483647] w fun e w' => e = .returned (.bool (decide (1 ≤ next ∧ next ≤ 2147483647))) ∧ w' = w) := fun w => within_any _ _ _ _
  have W2 : Hid (∀ w, Calls Tryz.prog 113 #[.int .i64 seq, .int .i64 0, .int .i64 1099511627776] w fun e w' => e = .returned (.bool (decide (0 ≤ seq ∧ seq ≤ 1099511627776))) ∧ w' = w) := fun w => within_any _ _ _ _
  by_cases h1 : ts.length ≤ 256
  case neg =>
    have h1' : (256 : Int) < (ts.length : Int) := by omega
    have HE : Hid ((9 : Int) = errV ts seq next) := (errV_bad (fun q => h1 q.1)).symm
    go_enter Tryz.func71, Tryz.ntmps71
    go_wp2_with fail
    go_ret
    exact ⟨ret35 HE.out, HU0⟩
  have h1' : ¬ (256 : Int) < (ts.length : Int) := by omega
  by_cases h2 : 1 ≤ next ∧ next ≤ 2147483647
  case neg =>
    have HE : Hid ((9 : Int) = errV ts seq next) := (errV_bad (fun q => h2 ⟨q.2.1, q.2.2.1⟩)).symm
    rw [decide_eq_false h2] at W1
    go_enter Tryz.func71, Tryz.ntmps71
    go_wp2_with fail
    refine (W1.out _).mono ?_
    rintro e w1 ⟨rfl, rfl⟩
    go_wp2_with fail
    go_ret
    exact ⟨ret35 HE.out, HU0⟩
  rw [decide_eq_true h2] at W1
  by_cases h3 : 0 ≤ seq ∧ seq ≤ 1099511627776
  case neg =>
    have HE : Hid ((9 : Int) = errV ts seq next) := (errV_bad (fun q => h3 q.2.2.2)).symm
    rw [decide_eq_false h3] at W2
    go_enter Tryz.func71, Tryz.ntmps71
    go_wp2_with fail
    refine (W1.out _).mono ?_
    rintro e w1 ⟨rfl, rfl⟩
    go_wp2_with fail
    refine (W2.out _).mono ?_
    rintro e w1 ⟨rfl, rfl⟩
    go_wp2_with fail
    go_ret
    exact ⟨ret35 HE.out, HU0⟩
  rw [decide_eq_true h3] at W2
  have HH : Hid (HdrV ts.length seq next) := ⟨h1, h2.1, h2.2, h3.1, h3.2⟩
  have HB0 : Hid ((w.alloc (.cells #[.slice a ts.length c, .int .i64 seq, .int .i64 next] 39)).heap[w.heap.size]? = some (.cells #[.slice a ts.length c, .int .i64 seq, .int .i64 next] 39)) := blk_new _ _
  obtain ⟨w0, hw0⟩ : ∃ w0, w0 = w.alloc (.cells #[.slice a ts.length c, .int .i64 seq, .int .i64 next] 39) := ⟨_, rfl⟩
  have HW0 : Hid (w.alloc (.cells #[.slice a ts.length c, .int .i64 seq, .int .i64 next] 39) = w0) := hw0.symm
  rw [← hw0] at HB0 HU0
  have HSZ : Hid (w0.heap.size = w.heap.size + 1) := by rw [hw0]; unfold Hid; simp
  have x0 := blk_cell HB0.out 0 _ rfl
  have x1 := blk_cell HB0.out 1 _ rfl
  have x2 := blk_cell HB0.out 2 _ rfl
  clear hw0
  have HC0 : Hid (CntW (w0.alloc (.map #[] 0)) w0.heap.size (idsM (ts.take 0))) := KeyW.made _ w0
  have HU1 : Hid (Below w.heap.size w (w0.alloc (.map #[] 0))) := up_al HU0.out _
  have HB1 : Hid ((w0.alloc (.map #[] 0)).heap[w.heap.size]? = some (.cells #[.slice a ts.length c, .int .i64 seq, .int .i64 next] 39)) := blk_up HB0.out (up_alloc _ _)
  have HNB : Hid (w.heap.size + 1 = w0.heap.size) := HSZ.out.symm
  clear HU0 HB0 h1 h2 h3
  have hmm := @run_makeMap Tryz.prog
  go_enter Tryz.func71, Tryz.ntmps71
  go_upto_region 1 with fail
  rw [HW0.out]
  clear HW0
  go_wp2_with fail
  refine (W1.out _).mono ?_
  rintro e w1 ⟨rfl, hw1⟩
  subst hw1
  go_wp2_with fail
  refine (W2.out _).mono ?_
  rintro e w1 ⟨rfl, hw1⟩
  subst hw1
  clear W1 W2
  generalize hNM : w1.heap.size = NM at *
  have HNE : Hid (w.heap.size ≠ NM ∧ w.heap.size ≤ NM) := by have := HSZ.out; unfold Hid; omega
  have y0 := blk_cell HB1.out 0 _ rfl
  clear x0 x1 x2 HSZ HNB
  go_wp2_with fail
  go_loopw [26] (fun i wr => ∃ k : Nat, k ≤ ts.length ∧ i = .int .i64 k ∧ Hid (ChainM next ts k) ∧ Hid (Below w.heap.size w wr) ∧ Hid (wr.heap[w.heap.size]? = some (.cells #[.slice a ts.length c, .int .i64 seq, .int .i64 next] 39)) ∧ Hid (CntW wr NM (idsM (ts.take k)))) (fun i _ => ts.length - (intOf i).toNat)
  case atStart => exact ⟨0, Nat.zero_le _, rfl, fun j m hj => by omega, HU1, HB1, HC0⟩
  case round =>
    clear HC0 HU1 HB1 y0 hNM
    obtain ⟨k, hk, rfl, HCH, HB, HBX, HCN⟩ := hrel
    by_cases hlt : k < ts.length
    · have hlt' : (k : Int) < (ts.length : Int) := by omega
      obtain ⟨b, off, cap, m, e, hm, z0, z1, z2, z3, z4⟩ := (HV.out.up HB.out).at k hlt
      simp at e
      obtain ⟨rfl, rfl⟩ := e
      have HM : Hid (ts[k]? = some m) := hm
      clear hm
      have HMY : Hid (∀ W : World, Calls Tryz.prog 114 #[.agg #[.int .i64 m.id, .int .i64 m.lvl, .int .i64 m.cnt, .string m.low, .string m.high]] W fun e w' => e = .returned (.bool (mayM m)) ∧ Hid (Below W.heap.size W w')) := fun W => mayBe_any m W
      have UB : Hid (Below wr.heap.size wr (wr.alloc (meBox m))) := up_alloc _ _
      have BX : Hid (BoxM (wr.alloc (meBox m)) wr.heap.size m) := blk_new _ _
      unfold meBox at UB BX
      have HEH : Hid (headM next (lastM ts k) m = false → (9 : Int) = errV ts seq next) := fun h => (errV_head HM.out h).symm
      cases hmy : mayM m
      · rw [hmy] at HMY
        have HR : Hid ((9 : Int) = errV ts seq next) := HEH.out (by unfold headM; rw [hmy]; rfl)
        go_wp2_with fail
        refine (HMY.out _).mono ?_
        rintro e w2 ⟨rfl, u2⟩
        go_wp2_with fail
        go_ret
        exact ⟨ret35 HR.out, up_trans HB.out (up_trans UB.out u2.out)⟩
      have HMM : Hid (mayM m = true) := hmy
      rw [hmy] at HMY
      go_wp2_with fail
      refine (HMY.out _).mono ?_
      rintro e w2 ⟨rfl, u2⟩
      have U2 : Hid (Below wr.heap.size wr w2) := up_trans UB.out u2.out
      have HB2 : Hid (Below w.heap.size w w2) := up_trans HB.out U2.out
      have BX2 : Hid (BoxM w2 wr.heap.size m) := BX.out.up u2.out
      have HBX2 := hid (blk_up HBX.out U2.out)
      have HCN2 : Hid (CntW w2 NM (idsM (ts.take k))) := KeyW.up HCN.out U2.out
      have HNX : Hid (wr.heap.size ≠ NM) := by have := KeyW.lt HCN.out; unfold Hid; omega
      clear UB BX u2 U2 z0 z1 z2 z3 z4 HMY HB HBX HCN
      generalize wr.heap.size = NX at *
      clear wr
      obtain ⟨m0, m1, m2, m3, m4⟩ := BX2.out.cells
      have y0 := blk_cell HBX2.out 0 _ rfl
      have y2 := blk_cell HBX2.out 2 _ rfl
      by_cases hid1 : m.id < next
      case neg =>
        have hid2 : next ≤ m.id := by omega
        have HR : Hid ((9 : Int) = errV ts seq next) := HEH.out (by unfold headM; rw [HMM.out, decide_eq_false hid1]; rfl)
        go_wp2_with fail
        go_ret
        exact ⟨ret35 HR.out, HB2⟩
      have hid2 : ¬ next ≤ m.id := by omega
      have HID : Hid (In64 m.id) := by
        have := HMM.out
        rw [mayM_eq] at this
        simp only [Bool.and_eq_true, decide_eq_true_eq] at this
        unfold Hid In64; omega
      have HSL : Hid ((idsM (ts.take k)).length < maxLen) := by
        have := idsM_len (ts.take k)
        rw [List.length_take] at this
        unfold Hid maxLen
        omega
      have HSN : Hid (addId (idsM (ts.take k)) m.id = idsM (ts.take (k + 1))) := by
        rw [List.take_add_one, HM.out]
        exact (idsM_snoc _ _).symm
      have HCS : Hid (headM next (lastM ts k) m = true → ChainM next ts (k + 1)) := by
        intro h j q hj hq
        by_cases e : j = k
        · subst e
          rw [HM.out] at hq
          injection hq with hq
          subst hq
          exact h
        · exact HCH.out j q (by omega) hq
      generalize idsM (ts.take k) = ids at *
      have HST : Hid (∀ W : World, Below w.heap.size w W → W.heap[w.heap.size]? = some (.cells #[.slice (some ⟨b, off, none⟩) ts.length c, .int .i64 seq, .int .i64 next] 39) → ∀ W', CntW W' NM (addId ids m.id) → W.mapTurned W' NM → Below w.heap.size w W' ∧ W'.heap[w.heap.size]? = some (.cells #[.slice (some ⟨b, off, none⟩) ts.length c, .int .i64 seq, .int .i64 next] 39) ∧ CntW W' NM (idsM (ts.take (k + 1)))) := by
        intro W h1 h2 W' h3 h4
        refine ⟨h1.trans (turned_below h4 HNE.out.2 h1.size), turned_blk h4 HNE.out.1 h2, ?_⟩
        rw [← HSN.out]
        exact h3
      by_cases h0 : k = 0
      · subst h0
        have HC1 : Hid (ChainM next ts (0 + 1)) := HCS.out (by unfold headM lastM; rw [HMM.out, decide_eq_true hid1]; rfl)
        have HWR : Hid (∀ c : Int, In64 (wrap64 (c + 1))) := by intro c; unfold In64 wrap64; omega
        go_wp2_with fail
        go_quiet (fail)
        have HB3 := hid (up_trans HB2.out (up_drewN w2 nq))
        have HBX3 := hid (blk_up HBX2.out (up_drewN w2 nq))
        have HCN3 : Hid (CntW (w2.drewN nq) NM ids) := KeyW.up HCN2.out (up_drewN w2 nq)
        have mm0 := (BX2.out.up (up_drewN w2 nq)).cells.1
        clear HB2 HBX2 HCN2 BX2 m0 m1 m2 m3 m4 y0 y2 HEH HCS
        generalize w2.drewN nq = w3 at *
        go_wp2_with (first | (at_lookup; refine wpList_cnt_get _ rfl _ _ rfl NM ids rfl HCN3.out m.id HID.out rfl ?_; intro cc) | (at_mapUpdate; refine wpList_cnt_put _ rfl _ _ _ rfl NM ids rfl HCN3.out HSL.out m.id HID.out rfl _ (HWR.out _) rfl ?_; intro W4 hC hT))
        have HFI := hid (HST.out _ HB3.out HBX3.out _ hC hT)
        clear hC hT
        go_wp2_with fail
        exact ⟨⟨0 + 1, by omega, by go_num, HC1, HFI.out.1, HFI.out.2.1, HFI.out.2.2⟩, by simp [intOf]; omega⟩
      · obtain ⟨j, hj⟩ : ∃ j, k = j + 1 := ⟨k - 1, by omega⟩
        obtain ⟨b2, off2, cap2, y, e2, hy, t0, t1, t2, t3, t4⟩ := (HV.out.up HB2.out).at j (by omega)
        simp at e2
        obtain ⟨⟨rfl, rfl⟩, rfl⟩ := e2
        have hjj : (k : Int) - 1 = (j : Int) := by omega
        have hj0 : 0 < k := by omega
        have hwj : IntKind.i64.wrap (j : Int) = (j : Int) := by rw [IntKind.wrap_i64]; omega
        have hjl : (j : Int) < (ts.length : Int) := by omega
        have HLM : Hid (lastM ts k = some y) := by unfold Hid lastM; rw [if_neg (by omega), hj]; exact hy
        have HWR : Hid (∀ c : Int, In64 (wrap64 (c + 1))) := by intro c; unfold In64 wrap64; omega
        have HYM : Hid (leM y.low y.high = true) := by
          have := HCH.out j y (by omega) hy
          unfold headM at this
          simp only [Bool.and_eq_true] at this
          have := this.1
          rw [mayM_eq] at this
          simp only [Bool.and_eq_true] at this
          exact this.2.2.2.2.2
        have HHM : Hid (headM next (lastM ts k) m = folM y m) := by
          unfold Hid headM
          rw [HLM.out, HMM.out, decide_eq_true hid1, folM_eq y m HYM.out]
          rfl
        have HQ : Hid (∀ W : World, Calls Tryz.prog 115 #[.agg #[.int .i64 y.id, .int .i64 y.lvl, .int .i64 y.cnt, .string y.low, .string y.high], .agg #[.int .i64 m.id, .int .i64 m.lvl, .int .i64 m.cnt, .string m.low, .string m.high]] W fun e w' => e = .returned (.bool (folM y m)) ∧ Below W.heap.size W w') := fun W => follows_any y m W
        clear hj hy
        have m0 := cell_up m0
        have m1 := cell_up m1
        have m2 := cell_up m2
        have m3 := cell_up m3
        have m4 := cell_up m4
        have t0 := cell_up t0
        have t1 := cell_up t1
        have t2 := cell_up t2
        have t3 := cell_up t3
        have t4 := cell_up t4
        have y0 := cell_up y0
        have y2 := cell_up y2
        cases hfo : folM y m
        · have HR : Hid ((9 : Int) = errV ts seq next) := HEH.out (by rw [HHM.out, hfo])
          rw [hfo] at HQ
          clear hfo
          go_wp2_with fail
          refine wp_region_up (by kernel_rfl) (by kernel_rfl) ?_
          repeat (go_big_quiet_step ((go_at_call 115; refine calls_up (HQ.out _))))
          refine wpQuiet_nil ?_
          intro _ hw'
          obtain ⟨p, hw''⟩ := hw'
          subst hw''
          go_wp2_with fail
          go_ret
          exact ⟨ret35 HR.out, up_trans HB2.out p.up⟩
        · have HC1 : Hid (ChainM next ts (k + 1)) := HCS.out (by rw [HHM.out, hfo])
          rw [hfo] at HQ
          clear hfo
          go_wp2_with fail
          refine wp_region_up (by kernel_rfl) (by kernel_rfl) ?_
          repeat (go_big_quiet_step ((go_at_call 115; refine calls_up (HQ.out _))))
          refine wpQuiet_nil ?_
          intro _ hw'
          obtain ⟨p, hw''⟩ := hw'
          subst hw''
          have HB3 := hid (up_trans HB2.out p.up)
          have HBX3 := hid (blk_up HBX2.out p.up)
          have HCN3 : Hid (CntW p.val NM ids) := KeyW.up HCN2.out p.up
          have mm0 := (BX2.out.up p.up).cells.1
          clear HB2 HBX2 HCN2 BX2 m0 m1 m2 m3 m4 y0 y2 t0 t1 t2 t3 t4 HQ HEH HCS
          generalize p.val = w3 at *
          clear p
          go_wp2_with (first | (at_lookup; refine wpList_cnt_get _ rfl _ _ rfl NM ids rfl HCN3.out m.id HID.out rfl ?_; intro cc) | (at_mapUpdate; refine wpList_cnt_put _ rfl _ _ _ rfl NM ids rfl HCN3.out HSL.out m.id HID.out rfl _ (HWR.out _) rfl ?_; intro W4 hC hT))
          have HFI := hid (HST.out _ HB3.out HBX3.out _ hC hT)
          clear hC hT
          go_wp2_with fail
          exact ⟨⟨k + 1, by omega, by go_num, HC1, HFI.out.1, HFI.out.2.1, HFI.out.2.2⟩, by simp [intOf]; omega⟩
    · have hlt' : ¬ (k : Int) < (ts.length : Int) := by omega
      obtain rfl : k = ts.length := by omega
      rw [List.take_length] at HCN
      have y0 := blk_cell HBX.out 0 _ rfl
      have HIL : Hid ((idsM ts).length ≤ 256) := by have := idsM_len ts; have := HH.out.1; unfold Hid; omega
      by_cases hd : (idsM ts).length < ts.length
      · have HR : Hid ((9 : Int) = errV ts seq next) := (errV_twice hd).symm
        have hd' : ((idsM ts).length : Int) < (ts.length : Int) := by omega
        have hln := cnt_len HCN.out
        generalize idsM ts = ids at *
        go_wp2_with fail
        go_ret
        exact ⟨ret35 HR.out, HB⟩
      · have HR : Hid ((0 : Int) = errV ts seq next) := (errV_fine HH.out (fun k m hm => HCH.out k m (List.getElem?_eq_some_iff.1 hm).1 hm) hd).symm
        have hd' : ¬ ((idsM ts).length : Int) < (ts.length : Int) := by omega
        have hln := cnt_len HCN.out
        generalize idsM ts = ids at *
        go_wp2_with fail
        go_ret
        exact ⟨ret35 HR.out, HB⟩
end Go.Proofs.YtnchjlimkgbfpaaGreatDoor
