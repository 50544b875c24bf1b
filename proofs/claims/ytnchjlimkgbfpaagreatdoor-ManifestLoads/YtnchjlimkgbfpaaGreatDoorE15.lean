/- The texts P4, ELeaf, EChk, ALeaf, AMay, in this order. -/
import Derived.Test.YtnchjlimkgbfpaaGreatDoorE14
import Derived.Test.YtnchjlimkgbfpaaGreatDoorE03
import Derived.Test.YtnchjlimkgbfpaaGreatDoorE02
import Derived.Deep.Cut

namespace Go.Proofs.YtnchjlimkgbfpaaGreatDoor
open Go.RowKit
set_option linter.unusedVariables false
set_option maxRecDepth 20000
def addId (ids : List Int) (x : Int) : List Int := if ids.contains x then ids else ids ++ [x]
def idsOf (l : List (List Int × Int)) : List Int := (l.map (·.2)).foldl addId []
theorem idsOf_snoc (l : List (List Int × Int)) (p : List Int × Int) : idsOf (l ++ [p]) = addId (idsOf l) p.2 := by
  simp [idsOf, List.foldl_append]
theorem addId_len (ids : List Int) (x : Int) : (addId ids x).length ≤ ids.length + 1 := by
  unfold addId
  split <;> simp
theorem idsOf_len (l : List (List Int × Int)) : (idsOf l).length ≤ l.length := by
  unfold idsOf
  have h : ∀ (m : List Int) (acc : List Int), (m.foldl addId acc).length ≤ acc.length + m.length := by
    intro m
    induction m with
    | nil => intro acc; simp
    | cons x m ih =>
      intro acc
      have h1 := ih (addId acc x)
      have h2 := addId_len acc x
      simp only [List.foldl_cons, List.length_cons]
      omega
  have := h (l.map (·.2)) []
  simpa using this
def SetW (w : World) (b : Nat) (ids : List Int) : Prop := ∃ D : DataW Unit, w.ownsMap Tryz.prog 3 unitElem b ids.length D ∧ Maps.Tidy D ∧ Maps.size D = ids.length ∧ ∀ x, Maps.has D (.int .i64 x) = ids.contains x
theorem own_tight {w : World} {b n : Nat} {D : DataW Unit} (h : w.ownsMap Tryz.prog 3 unitElem b n D) : w.ownsMap Tryz.prog 3 unitElem b (Maps.size D) D := by
  obtain ⟨es, clock, hb, F, hs, rfl⟩ := h
  exact ⟨es, clock, hb, F, by simp [Maps.size, length_sorted], rfl⟩
theorem wf_i64_of {x : Int} (h : In64 x) : (Lit.int .i64 x).wf = true := by
  refine WalkArith.wf_i64 ?_
  exact h
theorem SetW.made (w : World) : SetW (w.alloc (.map #[] 0)) w.heap.size [] :=
  ⟨.map [], World.ownsMap_made w Tryz.prog 3 unitElem, Maps.tidy_empty, rfl, fun x => rfl⟩
theorem SetW.lt {w : World} {b : Nat} {ids : List Int} (h : SetW w b ids) : b < w.heap.size := by
  obtain ⟨D, h1, _⟩ := h
  exact h1.lt
theorem SetW.kept {w w' : World} {b : Nat} {ids : List Int} {r : Option Nat} (h : SetW w b ids) (hg : w.grownBy w' r) (hne : some b ≠ r) : SetW w' b ids := by
  obtain ⟨D, h1, h2⟩ := h
  exact ⟨D, h1.kept hg hne, h2⟩
theorem SetW.up {w w' : World} {b : Nat} {ids : List Int} (h : SetW w b ids) (hb : Below w.heap.size w w') : SetW w' b ids := by
  obtain ⟨D, ⟨es, clock, hh, r⟩, h2⟩ := h
  exact ⟨D, ⟨es, clock, (hb.block b (Array.getElem?_eq_some_iff.1 hh).1).trans hh, r⟩, h2⟩
theorem SetW.put {w' : World} {b : Nat} {ids : List Int} {x : Int} {D : DataW Unit} (hx : In64 x) (h2 : Maps.Tidy D) (h3 : Maps.size D = ids.length) (h4 : ∀ y, Maps.has D (.int .i64 y) = ids.contains y)
    (h : w'.ownsMap Tryz.prog 3 unitElem b (ids.length + 1) (D.put (.int .i64 x) (.agg []))) : SetW w' b (addId ids x) := by
  have hk : WideAt.IsKeyLit (.int .i64 x) := trivial
  have hsz : Maps.size (D.put (.int .i64 x) (.agg [])) = (addId ids x).length := by
    rw [Maps.size_put h2, h4 x, h3]
    unfold addId
    split <;> simp
  refine ⟨D.put (.int .i64 x) (.agg []), ?_, h2.put hk _, hsz, fun y => ?_⟩
  · have := own_tight h
    rw [hsz] at this
    exact this
  · by_cases e : y = x
    · subst e
      rw [Maps.has_put_same h2.isMap hk]
      unfold addId
      split <;> simp_all
    · rw [Maps.has_put_other (by intro q; injection q with _ q; exact e q), h4 y]
      unfold addId
      split
      · rfl
      · simp [e]
theorem wpList_set_put (w : World) {ops : Array Oper} {rest : List Oper} {o : Oper} {a : Act} {Q : Exit → Act → World → Prop} (hgd : o.guard = none) (m x v : Operand) (hop : o.op = Op.mapUpdate 233 m x v)
    (b : Nat) (ids : List Int) (hm : a.eval m = .map (some b)) (hs : SetW w b ids) (hn : ids.length < maxLen) (id : Int) (hid : In64 id) (hx : a.eval x = .int .i64 id) (hv : a.eval v = .agg #[])
    (hK : ∀ w', SetW w' b (addId ids id) → w.grownBy w' (some b) → wpList Tryz.prog ops Q rest (a.put o.dst undef) w') : wpList Tryz.prog ops Q (o :: rest) a w := by
  obtain ⟨D, h1, h2, h3, h4⟩ := hs
  refine wpList_mapUpdate_own w hgd m x v 233 hop 3 131 (Maps.int_keyed Tryz.underlying3) Tryz.underlying233 unitElem b ids.length D hm h1 hn _ _ (.int .i64 id) hx hv (Maps.keyOf_int_mk Tryz.underlying3 (wf_i64_of hid)) (.agg []) [] unitElem_mk ?_
  intro w' r1 r2
  exact hK w' (SetW.put hid h2 h3 h4 r1) r2
def allN (ls : List (Value × List (List Int × Int))) : List (List Int × Int) := (ls.map (·.2)).flatten
theorem allN_snoc (ls : List (Value × List (List Int × Int))) (k : Nat) (h : k < ls.length) (d : Value × List (List Int × Int)) : allN (ls.take (k + 1)) = allN (ls.take k) ++ (ls.getD k d).2 := by
  rw [take_snoc ls k d h]
  simp [allN]
theorem allN_len (ls : List (Value × List (List Int × Int))) (k : Nat) (h : k < ls.length) (d : Value × List (List Int × Int)) : (allN (ls.take k)).length + (ls.getD k d).2.length ≤ (allN ls).length := by
  have e := allN_snoc ls k h d
  have e2 : allN ls = allN (ls.take (k + 1)) ++ allN (ls.drop (k + 1)) := by
    unfold allN
    rw [← List.flatten_append, ← List.map_append, List.take_append_drop]
  rw [e2, e, List.length_append, List.length_append]
  omega
set_option maxHeartbeats 1000000 in
theorem numbers_any (ls : List (Value × List (List Int × Int))) (B cap : Nat) (w : World) (hne : ls.length ≤ 2) (hc : ∀ j, j < ls.length → w.cell? ⟨B, j, none⟩ = some (ls.getD j (.slice none 0 0, [])).1)
    (hN : ∀ j, j < ls.length → NamesW w (ls.getD j (.slice none 0 0, [])).1 (ls.getD j (.slice none 0 0, [])).2) (htot : (allN ls).length ≤ maxLen) :
    Calls Tryz.prog 148 #[.slice (some ⟨B, 0, none⟩) ls.length cap] w fun e w' => e = .returned (.map (some w.heap.size)) ∧ SetW w' w.heap.size (idsOf (allN ls)) ∧ Below w.heap.size w w' := by
  have HC : Hid (∀ j, j < ls.length → w.cell? ⟨B, j, none⟩ = some (ls.getD j (.slice none 0 0, [])).1) := hc
  have HN : Hid (∀ j, j < ls.length → NamesW w (ls.getD j (.slice none 0 0, [])).1 (ls.getD j (.slice none 0 0, [])).2) := hN
  clear hc hN
  unfold maxLen at htot
  have hmm := @run_makeMap Tryz.prog
  go_enter Tryz.func148, Tryz.ntmps148
  go_wp2
  go_loopw [11] (fun i wr => ∃ k : Nat, k ≤ ls.length ∧ i = .int .i64 k ∧ Hid (SetW wr w.heap.size (idsOf (allN (ls.take k)))) ∧ Hid (Below w.heap.size w wr)) (fun i _ => ls.length - (intOf i).toNat)
  case atStart => exact ⟨0, Nat.zero_le _, rfl, SetW.made w, up_al (Below.refl _ _) _⟩
  case round =>
    obtain ⟨k, hk, rfl, HS, up⟩ := hrel
    by_cases hlt : k < ls.length
    · have hlt' : (k : Int) < (ls.length : Int) := by omega
      have ck := HC.out k hlt
      have ck' := (up.out.cell (p := ⟨B, k, none⟩) (World.block_lt_of_cell? w _ ck)).trans ck
      have HNk : Hid (NamesW w (ls.getD k (.slice none 0 0, [])).1 (ls.getD k (.slice none 0 0, [])).2) := HN.out k hlt
      have HSn : Hid (allN (ls.take (k + 1)) = allN (ls.take k) ++ (ls.getD k (.slice none 0 0, [])).2) := allN_snoc ls k hlt _
      have hlen := allN_len ls k hlt (.slice none 0 0, [])
      clear ck
      generalize ls.getD k (.slice none 0 0, []) = y at *
      obtain ⟨yv, l⟩ := y
      simp only at ck' HNk HSn hlen
      obtain ⟨a, cap2, rfl, hcap2, hmax2⟩ := HNk.out.len
      generalize allN (ls.take k) = done at *
      go_wp2
      go_loopw [17] (fun i wr => ∃ j : Nat, j ≤ l.length ∧ i = .int .i64 j ∧ Hid (SetW wr w.heap.size (idsOf (done ++ l.take j))) ∧ Hid (Below w.heap.size w wr)) (fun i _ => l.length - (intOf i).toNat)
      case atStart => exact ⟨0, Nat.zero_le _, rfl, by rw [List.take_zero, List.append_nil]; exact HS.out, up.out⟩
      case round =>
        clear HS up ck'
        obtain ⟨j, hj, rfl, HS, up⟩ := hrel
        by_cases hjl : j < l.length
        · have hjl' : (j : Int) < (l.length : Int) := by omega
          obtain ⟨b, off, cap', e, _, _, c0, c1, ho, _, hi'⟩ := (HNk.out.up up.out).at j hjl
          simp at e
          obtain ⟨rfl, rfl⟩ := e
          have HT : Hid (l.take (j + 1) = l.take j ++ [l.getD j ([], 0)]) := take_snoc l j _ hjl
          have HI : Hid (In64 (l.getD j ([], 0)).2) := hi'
          have HSl : Hid ((idsOf (done ++ l.take j)).length < maxLen) := by
            have := idsOf_len (done ++ l.take j)
            rw [List.length_append, List.length_take] at this
            unfold Hid maxLen
            omega
          have hws := SetW.lt HS.out
          generalize l.getD j ([], 0) = y at *
          obtain ⟨ys, yi⟩ := y
          simp only at c0 c1 HI HT
          clear ho hi'
          have HG : Hid (SetW wr w.heap.size (idsOf (done ++ l.take j))) := HS.out
          have HSet : Hid (SetW (wr.alloc (.cells #[.string (strOfNums ys), .int .i64 yi] 146)) w.heap.size (idsOf (done ++ l.take j))) := HS.out.up (up_al (Below.refl _ _) _)
          have HUp : Hid (Below w.heap.size w (wr.alloc (.cells #[.string (strOfNums ys), .int .i64 yi] 146))) := up_al up.out _
          go_wp2_with (at_mapUpdate; refine wpList_set_put _ rfl _ _ _ rfl w.heap.size _ rfl HSet.out HSl.out yi HI.out rfl rfl ?_; intro w1 hset1 hgrow1)
          have hset2 : SetW w1 w.heap.size (idsOf (done ++ l.take (j + 1))) := by
            rw [HT.out, ← List.append_assoc, idsOf_snoc]
            exact hset1
          exact ⟨⟨j + 1, by omega, by go_num, hset2, HUp.out.grown hgrow1 HUp.out.size (fun k hk => by injection hk with hk; omega)⟩, by simp [intOf]; omega⟩
        · have hjl' : ¬ (j : Int) < (l.length : Int) := by omega
          obtain rfl : j = l.length := by omega
          have HS2 : Hid (SetW wr w.heap.size (idsOf (allN (ls.take (k + 1))))) := by
            unfold Hid
            rw [HSn.out, ← List.take_length (l := l)]
            exact HS.out
          go_wp2
          exact ⟨⟨k + 1, by omega, by go_num, HS2, up⟩, by simp [intOf]; omega⟩
    · have hlt' : ¬ (k : Int) < (ls.length : Int) := by omega
      obtain rfl : k = ls.length := by omega
      have HS2 : Hid (SetW wr w.heap.size (idsOf (allN ls))) := by
        have := HS.out
        rw [List.take_length] at this
        exact this
      go_wp2
      go_ret
      exact ⟨rfl, HS2.out, up.out⟩
end Go.Proofs.YtnchjlimkgbfpaaGreatDoor

namespace Go.Proofs.YtnchjlimkgbfpaaGreatDoor
open Go.RowKit
set_option linter.unusedVariables false
set_option maxRecDepth 20000
set_option linter.unusedSimpArgs false
def meObj (m : Me) : Obj := .cells #[.int .i64 m.id, .int .i64 m.lvl, .int .i64 m.cnt, .string m.low, .string m.high] 139
set_option maxRecDepth 100000 in
theorem refBefM_any (a b : Me) (w : World) :
    Calls Tryz.prog 66 #[meV a, meV b] w fun e w' => e = .returned (.bool (befM a b)) ∧ w' = (w.alloc (meObj a)).alloc (meObj b) := by
  obtain ⟨ai, al, ac, alo, ahi⟩ := a
  obtain ⟨bi, bl, bc, blo, bhi⟩ := b
  unfold meV
  go_enter Tryz.func66, Tryz.ntmps66
  go_wp2
  all_goals
    go_ret
    refine ⟨?_, rfl⟩
    simp_all [befM]
set_option maxHeartbeats 1000000 in
set_option maxRecDepth 100000 in
theorem refMayM_any (m : Me) (w : World) :
    Calls Tryz.prog 65 #[meV m] w fun e w' => e = .returned (.bool (mayM m)) ∧ w' = w.alloc (meObj m) := by
  obtain ⟨i, l, c, lo, hi⟩ := m
  unfold meV
  go_enter Tryz.func65, Tryz.ntmps65
  go_wp2
  all_goals
    go_ret
    refine ⟨?_, by simp_all [meObj]⟩
    simp_all [mayM, keyM, leM]
    try first | omega | (intros; omega)
end Go.Proofs.YtnchjlimkgbfpaaGreatDoor

namespace Go.Proofs.YtnchjlimkgbfpaaGreatDoor
open Go.RowKit
set_option linter.unusedVariables false
set_option maxRecDepth 20000
set_option linter.unusedSimpArgs false
def MetsR (w : World) (v : Value) (l : List Me) : Prop := Rws 5 w v (l.map meRow)
theorem MetsR.up {w w' : World} {v : Value} {l : List Me} (h : MetsR w v l) (hb : Below w.heap.size w w') : MetsR w' v l := Rws.up h hb
theorem MetsR.len {w : World} {v : Value} {l : List Me} (h : MetsR w v l) : ∃ a cap, v = .slice a l.length cap ∧ l.length ≤ cap ∧ cap ≤ maxLen := by
  obtain ⟨a, c, e, h1, h2⟩ := Rws.len h
  simp only [List.length_map] at e h1
  exact ⟨a, c, e, h1, h2⟩
theorem MetsR.at {w : World} {v : Value} {l : List Me} (h : MetsR w v l) (k : Nat) (hk : k < l.length) :
    ∃ b off cap n, v = .slice (some ⟨b, off, none⟩) l.length cap ∧ l[k]? = some n ∧ w.cell? ⟨b, off + k * 5, none⟩ = some (.int .i64 n.id) ∧ w.cell? ⟨b, off + k * 5 + 1, none⟩ = some (.int .i64 n.lvl) ∧ w.cell? ⟨b, off + k * 5 + 2, none⟩ = some (.int .i64 n.cnt) ∧ w.cell? ⟨b, off + k * 5 + 3, none⟩ = some (.string n.low) ∧ w.cell? ⟨b, off + k * 5 + 4, none⟩ = some (.string n.high) := by
  obtain ⟨b, off, cap, e, _, _, hc⟩ := Rws.at h k (by simpa using hk)
  simp only [List.length_map] at e
  have hg : (l.map meRow).getD k [] = meRow l[k] := by simp [List.getD, hk]
  rw [hg] at hc
  refine ⟨b, off, cap, l[k], e, by simp [hk], ?_, ?_, ?_, ?_, ?_⟩
  · simpa using hc 0 _ rfl
  · simpa using hc 1 _ rfl
  · simpa using hc 2 _ rfl
  · simpa using hc 3 _ rfl
  · simpa using hc 4 _ rfl
theorem refMayP (m : Me) (x : Bool) (h : mayM m = x) (w : World) : Calls Tryz.prog 65 #[meV m] w fun e w' => e = .returned (.bool x) ∧ Below w.heap.size w w' := by
  refine (refMayM_any m w).mono ?_
  rintro e w' ⟨rfl, rfl⟩
  exact ⟨by rw [h], up_alloc _ _⟩
theorem refBefP (a b : Me) (x : Bool) (h : befM a b = x) (w : World) : Calls Tryz.prog 66 #[meV a, meV b] w fun e w' => e = .returned (.bool x) ∧ Below w.heap.size w w' := by
  refine (refBefM_any a b w).mono ?_
  rintro e w' ⟨rfl, rfl⟩
  exact ⟨by rw [h], up_al (up_alloc _ _) _⟩
def headM (next : Int) (p : Option Me) (m : Me) : Bool :=
  mayM m && (decide (m.id < next) && (match p with | none => true | some p => befM p m && !(decide (0 < m.lvl) && (decide (p.lvl = m.lvl) && leM m.low p.high))))
def lastM (l : List Me) (k : Nat) : Option Me := if k = 0 then none else l[k - 1]?
theorem lastM_take (l : List Me) (k : Nat) (hk : k ≤ l.length) : (l.take k).getLast? = lastM l k := by
  unfold lastM
  by_cases h : k = 0
  · subst h; simp
  · rw [if_neg h, List.getLast?_eq_getElem?, List.length_take, Nat.min_eq_left hk, List.getElem?_take_of_lt (by omega)]
theorem okM_eq (next : Int) (l : List Me) (k : Nat) (hk : k ≤ l.length) (m : Me) : okM next (l.take k) m = (headM next (lastM l k) m && (l.take k).all (fun p => decide (p.id ≠ m.id))) := by
  unfold okM headM
  rw [lastM_take l k hk]
  cases lastM l k <;> simp only [Bool.and_assoc]
theorem allM_step (next : Int) (l : List Me) (k : Nat) (m : Me) (h : l[k]? = some m) : allM next (l.take k) (l.drop k) = (okM next (l.take k) m && allM next (l.take (k + 1)) (l.drop (k + 1))) := by
  have hk := (List.getElem?_eq_some_iff.1 h).1
  rw [List.drop_eq_getElem_cons hk, (List.getElem?_eq_some_iff.1 h).2, allM, List.take_add_one, h]
  rfl
theorem errV_goes {ts : List Me} {seq next : Int} {k : Nat} {m : Me} (h : errV ts seq next = if allM next (ts.take k) (ts.drop k) = true then 0 else 9) (hm : ts[k]? = some m) (hh : headM next (lastM ts k) m = true) (hi : (ts.take k).all (fun p => decide (p.id ≠ m.id)) = true) : errV ts seq next = if allM next (ts.take (k + 1)) (ts.drop (k + 1)) = true then 0 else 9 := by
  rw [h, allM_step next ts k m hm, okM_eq next ts k (Nat.le_of_lt (List.getElem?_eq_some_iff.1 hm).1) m, hh, hi]
  rfl
theorem errV_ends {ts : List Me} {seq next : Int} {k : Nat} {m : Me} (h : errV ts seq next = if allM next (ts.take k) (ts.drop k) = true then 0 else 9) (hm : ts[k]? = some m) (hh : headM next (lastM ts k) m = false ∨ (ts.take k).all (fun p => decide (p.id ≠ m.id)) = false) : errV ts seq next = 9 := by
  rw [h, allM_step next ts k m hm, okM_eq next ts k (Nat.le_of_lt (List.getElem?_eq_some_iff.1 hm).1) m]
  rcases hh with hh | hh <;> rw [hh] <;> simp
theorem errV_done {ts : List Me} {seq next : Int} {k : Nat} (h : errV ts seq next = if allM next (ts.take k) (ts.drop k) = true then 0 else 9) (hk : ts.length ≤ k) : errV ts seq next = 0 := by
  rw [h, List.drop_eq_nil_of_le hk]; rfl
theorem errV_bad {ts : List Me} {seq next : Int} (h : ¬ (ts.length ≤ 256 ∧ 1 ≤ next ∧ next ≤ 2147483647 ∧ 0 ≤ seq ∧ seq ≤ 1099511627776)) : errV ts seq next = 9 := by
  unfold errV chkV
  rw [decide_eq_false h]
  simp
theorem errV_start {ts : List Me} {seq next : Int} (h : ts.length ≤ 256 ∧ 1 ≤ next ∧ next ≤ 2147483647 ∧ 0 ≤ seq ∧ seq ≤ 1099511627776) : errV ts seq next = if allM next (ts.take 0) (ts.drop 0) = true then 0 else 9 := by
  unfold errV chkV
  rw [decide_eq_true h]
  simp
end Go.Proofs.YtnchjlimkgbfpaaGreatDoor

namespace Go.Proofs.YtnchjlimkgbfpaaGreatDoor
open Go.RowKit
set_option linter.unusedVariables false
set_option maxRecDepth 20000
set_option linter.unusedSimpArgs false
def cmpS (s t : ByteArray) : Int := if Op.bytesLess s.toList t.toList = true then -1 else if Op.bytesLess t.toList s.toList = true then 1 else 0
def meBox (m : Me) : Obj := .cells #[.int .i64 m.id, .int .i64 m.lvl, .int .i64 m.cnt, .string m.low, .string m.high] 148
theorem cmpStr_any (s t : ByteArray) (w : World) : Calls Tryz.prog 180 #[.string s, .string t] w fun e w' => e = .returned (.int .i64 (cmpS s t)) ∧ w' = w := by
  have nan : ∀ n w, Calls Tryz.prog 205 #[.string n] w fun e w' => e = .returned (.bool false) ∧ w' = w := by
    intro n w
    go_enter Tryz.func205, Tryz.ntmps205
    go_wp2
    go_ret
    exact ⟨by simp, rfl⟩
  unfold cmpS
  go_enter Tryz.func180, Tryz.ntmps180
  go_wp2_with (go_at_call 205; refine (nan _ _).mono ?_; rintro e w1 ⟨rfl, rfl⟩)
  all_goals
    go_ret
    refine ⟨?_, rfl⟩
    try simp_all
    try (exact absurd (bl_totalM _ _ ‹Op.bytesLess s.toList t.toList = false› ‹Op.bytesLess t.toList s.toList = false›) ‹¬ s.toList = t.toList›)
def ordM (a b : Me) : Int := if cmpI a.lvl b.lvl = 0 then (if a.lvl = 0 then cmpI b.id a.id else cmpS a.low b.low) else cmpI a.lvl b.lvl
set_option maxRecDepth 100000 in
theorem order_any (a b : Me) (w : World) :
    Calls Tryz.prog 153 #[meV a, meV b] w fun e w' => e = .returned (.int .i64 (ordM a b)) ∧ w' = (w.alloc (meBox a)).alloc (meBox b) := by
  obtain ⟨ai, al, ac, alo, ahi⟩ := a
  obtain ⟨bi, bl, bc, blo, bhi⟩ := b
  unfold meV ordM
  simp only
  generalize h1 : cmpI al bl = c1
  generalize h2 : cmpI bi ai = c2
  generalize h3 : cmpS alo blo = c3
  have k1 : ∀ w, Calls Tryz.prog 170 #[.int .i64 al, .int .i64 bl] w fun e w' => e = .returned (.int .i64 c1) ∧ w' = w := fun w => h1 ▸ cmpInt_any _ _ _
  have k2 : ∀ w, Calls Tryz.prog 170 #[.int .i64 bi, .int .i64 ai] w fun e w' => e = .returned (.int .i64 c2) ∧ w' = w := fun w => h2 ▸ cmpInt_any _ _ _
  have k3 : ∀ w, Calls Tryz.prog 180 #[.string alo, .string blo] w fun e w' => e = .returned (.int .i64 c3) ∧ w' = w := fun w => h3 ▸ cmpStr_any _ _ _
  have K1 : Hid (∀ w, Calls Tryz.prog 170 #[.int .i64 al, .int .i64 bl] w fun e w' => e = .returned (.int .i64 c1) ∧ w' = w) := k1
  have K2 : Hid (∀ w, Calls Tryz.prog 170 #[.int .i64 bi, .int .i64 ai] w fun e w' => e = .returned (.int .i64 c2) ∧ w' = w) := k2
  have K3 : Hid (∀ w, Calls Tryz.prog 180 #[.string alo, .string blo] w fun e w' => e = .returned (.int .i64 c3) ∧ w' = w) := k3
  clear h1 h2 h3 k1 k2 k3
  by_cases z : c1 = 0
  · subst z
    by_cases y : al = 0
    · subst y
      go_enter Tryz.func153, Tryz.ntmps153
      go_wp2_with fail
      refine (K1.out _).mono ?_
      rintro e w1 ⟨rfl, rfl⟩
      go_wp2_with fail
      refine (K2.out _).mono ?_
      rintro e w1 ⟨rfl, rfl⟩
      go_wp2_with fail
      go_ret
      exact ⟨rfl, rfl⟩
    · have y' : (al == 0) = false := by simp [y]
      go_enter Tryz.func153, Tryz.ntmps153
      go_wp2_with fail
      refine (K1.out _).mono ?_
      rintro e w1 ⟨rfl, rfl⟩
      go_wp2_with fail
      refine (K3.out _).mono ?_
      rintro e w1 ⟨rfl, rfl⟩
      go_wp2_with fail
      go_ret
      refine ⟨?_, rfl⟩
      simp [y]
  · have z' : (c1 == 0) = false := by simp [z]
    go_enter Tryz.func153, Tryz.ntmps153
    go_wp2_with fail
    refine (K1.out _).mono ?_
    rintro e w1 ⟨rfl, rfl⟩
    go_wp2_with fail
    go_ret
    refine ⟨?_, rfl⟩
    simp [z]
theorem within_any (n a b : Int) (w : World) : Calls Tryz.prog 113 #[.int .i64 n, .int .i64 a, .int .i64 b] w fun e w' => e = .returned (.bool (decide (a ≤ n ∧ n ≤ b))) ∧ w' = w := by
  go_enter Tryz.func113, Tryz.ntmps113
  go_wp2
  all_goals
    go_ret
    refine ⟨?_, rfl⟩
    simp_all
    try omega
theorem numbersOf_any (m : Me) (w : World) : Calls Tryz.prog 119 #[meV m] w fun e w' => e = .returned (.agg #[.int .i64 m.id, .int .i64 m.lvl, .int .i64 m.cnt]) ∧ Hid (Below w.heap.size w w') := by
  obtain ⟨i, l, c, lo, hi⟩ := m
  unfold meV
  go_enter Tryz.func119, Tryz.ntmps119
  go_wp2
  go_returns
  exact ⟨rfl, up_al (up_alloc _ _) _⟩
theorem textsOf_any (m : Me) (w : World) : Calls Tryz.prog 120 #[meV m] w fun e w' => e = .returned (.agg #[.string m.low, .string m.high]) ∧ Hid (Below w.heap.size w w') := by
  obtain ⟨i, l, c, lo, hi⟩ := m
  unfold meV
  go_enter Tryz.func120, Tryz.ntmps120
  go_wp2
  go_returns
  exact ⟨rfl, up_al (up_alloc _ _) _⟩
end Go.Proofs.YtnchjlimkgbfpaaGreatDoor

namespace Go.Proofs.YtnchjlimkgbfpaaGreatDoor
open Go.RowKit
set_option linter.unusedVariables false
set_option maxRecDepth 20000
set_option linter.unusedSimpArgs false
theorem idx87 (n0 n1 n2 : Int) (w : World) : (Instr.index 205 (.agg #[.int .i64 n0, .int .i64 n1, .int .i64 n2]) (.int .i64 0)).run Tryz.prog w = .ok (.int .i64 n0) w ∧ (Instr.index 205 (.agg #[.int .i64 n0, .int .i64 n1, .int .i64 n2]) (.int .i64 1)).run Tryz.prog w = .ok (.int .i64 n1) w ∧ (Instr.index 205 (.agg #[.int .i64 n0, .int .i64 n1, .int .i64 n2]) (.int .i64 2)).run Tryz.prog w = .ok (.int .i64 n2) w := ⟨by kernel_rfl, by kernel_rfl, by kernel_rfl⟩
theorem idx89 (s t : ByteArray) (w : World) : (Instr.index 207 (.agg #[.string s, .string t]) (.int .i64 0)).run Tryz.prog w = .ok (.string s) w ∧ (Instr.index 207 (.agg #[.string s, .string t]) (.int .i64 1)).run Tryz.prog w = .ok (.string t) w := ⟨by kernel_rfl, by kernel_rfl⟩
def BoxM (W : World) (N : Nat) (m : Me) : Prop := W.heap[N]? = some (meBox m)
theorem BoxM.up {W W' : World} {N : Nat} {m : Me} (h : BoxM W N m) (hb : Below W.heap.size W W') : BoxM W' N m := blk_up h hb
theorem BoxM.cells {W : World} {N : Nat} {m : Me} (h : BoxM W N m) : W.cell? ⟨N, 0, none⟩ = some (.int .i64 m.id) ∧ W.cell? ⟨N, 1, none⟩ = some (.int .i64 m.lvl) ∧ W.cell? ⟨N, 2, none⟩ = some (.int .i64 m.cnt) ∧ W.cell? ⟨N, 3, none⟩ = some (.string m.low) ∧ W.cell? ⟨N, 4, none⟩ = some (.string m.high) :=
  ⟨blk_cell h 0 _ rfl, blk_cell h 1 _ rfl, blk_cell h 2 _ rfl, blk_cell h 3 _ rfl, blk_cell h 4 _ rfl⟩
def tripE (a b c : Int) : Obj := .cells #[.int .i64 a, .int .i64 b, .int .i64 c] 205
theorem mayM_eq (m : Me) : mayM m = (decide (1 ≤ m.id ∧ m.id ≤ 2147483647) && (decide (0 ≤ m.lvl ∧ m.lvl ≤ 3) && (decide (1 ≤ m.cnt ∧ m.cnt ≤ 4096) && (decide (1 ≤ (m.low.size : Int) ∧ (m.low.size : Int) ≤ 96) && (decide (1 ≤ (m.high.size : Int) ∧ (m.high.size : Int) ≤ 96) && leM m.low m.high))))) := by
  unfold mayM keyM
  have e : decide (1 ≤ m.id ∧ m.id ≤ 2147483647 ∧ 0 ≤ m.lvl ∧ m.lvl ≤ 3 ∧ 1 ≤ m.cnt ∧ m.cnt ≤ 4096) = (decide (1 ≤ m.id ∧ m.id ≤ 2147483647) && (decide (0 ≤ m.lvl ∧ m.lvl ≤ 3) && decide (1 ≤ m.cnt ∧ m.cnt ≤ 4096))) := by
    rw [Bool.eq_iff_iff]; simp; omega
  rw [e]
  simp only [Bool.and_assoc]
set_option maxHeartbeats 4000000 in
set_option maxRecDepth 100000 in
theorem mayBe_any (m : Me) (w : World) :
    Calls Tryz.prog 114 #[meV m] w fun e w' => e = .returned (.bool (mayM m)) ∧ Hid (Below w.heap.size w w') := by
  rw [mayM_eq]
  obtain ⟨i, l, c, lo, hi⟩ := m
  simp only
  have ix0 := fun w => (idx87 i l c w).1
  have ix1 := fun w => (idx87 i l c w).2.1
  have ix2 := fun w => (idx87 i l c w).2.2
  have iy0 := fun w => (idx89 lo hi w).1
  have iy1 := fun w => (idx89 lo hi w).2
  have HNO : Hid (∀ w, Calls Tryz.prog 119 #[.agg #[.int .i64 i, .int .i64 l, .int .i64 c, .string lo, .string hi]] w fun e w' => e = .returned (.agg #[.int .i64 i, .int .i64 l, .int .i64 c]) ∧ Hid (Below w.heap.size w w')) := fun w => numbersOf_any ⟨i, l, c, lo, hi⟩ w
  have HTO : Hid (∀ w, Calls Tryz.prog 120 #[.agg #[.int .i64 i, .int .i64 l, .int .i64 c, .string lo, .string hi]] w fun e w' => e = .returned (.agg #[.string lo, .string hi]) ∧ Hid (Below w.heap.size w w')) := fun w => textsOf_any ⟨i, l, c, lo, hi⟩ w
  have HLE : Hid (∀ b, leM lo hi = b → (Op.bytesLess lo.toList hi.toList || (lo.toList == hi.toList)) = b) := fun b h => h
  have H0 : Hid (∀ w, Calls Tryz.prog 113 #[.int .i64 i, .int .i64 1, .int .i64 2147483647] w fun e w' => e = .returned (.bool (decide (1 ≤ i ∧ i ≤ 2147483647))) ∧ w' = w) := fun w => within_any _ _ _ _
  have H1 : Hid (∀ w, Calls Tryz.prog 113 #[.int .i64 l, .int .i64 0, .int .i64 3] w fun e w' => e = .returned (.bool (decide (0 ≤ l ∧ l ≤ 3))) ∧ w' = w) := fun w => within_any _ _ _ _
  have H2 : Hid (∀ w, Calls Tryz.prog 113 #[.int .i64 c, .int .i64 1, .int .i64 4096] w fun e w' => e = .returned (.bool (decide (1 ≤ c ∧ c ≤ 4096))) ∧ w' = w) := fun w => within_any _ _ _ _
  have H3 : Hid (∀ w, Calls Tryz.prog 113 #[.int .i64 (lo.size : Int), .int .i64 1, .int .i64 96] w fun e w' => e = .returned (.bool (decide (1 ≤ (lo.size : Int) ∧ (lo.size : Int) ≤ 96))) ∧ w' = w) := fun w => within_any _ _ _ _
  have H4 : Hid (∀ w, Calls Tryz.prog 113 #[.int .i64 (hi.size : Int), .int .i64 1, .int .i64 96] w fun e w' => e = .returned (.bool (decide (1 ≤ (hi.size : Int) ∧ (hi.size : Int) ≤ 96))) ∧ w' = w) := fun w => within_any _ _ _ _
  generalize decide (1 ≤ i ∧ i ≤ 2147483647) = b0 at H0 ⊢
  generalize decide (0 ≤ l ∧ l ≤ 3) = b1 at H1 ⊢
  generalize decide (1 ≤ c ∧ c ≤ 4096) = b2 at H2 ⊢
  generalize decide (1 ≤ (lo.size : Int) ∧ (lo.size : Int) ≤ 96) = b3 at H3 ⊢
  generalize decide (1 ≤ (hi.size : Int) ∧ (hi.size : Int) ≤ 96) = b4 at H4 ⊢
  generalize hb5 : leM lo hi = b5 at HLE ⊢
  have E5 := HLE.out b5 rfl
  clear HLE hb5
  unfold meV
  simp only
  obtain ⟨w3, hw3⟩ : ∃ w3, w3 = ((w.alloc (.cells #[.int .i64 i, .int .i64 l, .int .i64 c, .string lo, .string hi] 148)).alloc (tripE 1 0 1)).alloc (tripE 2147483647 3 4096) := ⟨_, rfl⟩
  have HW3 : Hid (((w.alloc (.cells #[.int .i64 i, .int .i64 l, .int .i64 c, .string lo, .string hi] 148)).alloc (.cells #[.int .i64 1, .int .i64 0, .int .i64 1] 205)).alloc (.cells #[.int .i64 2147483647, .int .i64 3, .int .i64 4096] 205) = w3) := hw3.symm
  have U3 : Hid (Below w.heap.size w w3) := by rw [hw3]; exact up_al (up_al (up_alloc _ _) _) _
  have BX : Hid (w3.heap[w.heap.size]? = some (.cells #[.int .i64 i, .int .i64 l, .int .i64 c, .string lo, .string hi] 148)) := by
    rw [hw3]; exact blk_up (blk_up (blk_new _ _) (up_alloc _ _)) (up_alloc _ _)
  have BA : Hid (w3.heap[w.heap.size + 1]? = some (tripE 1 0 1)) := by
    rw [hw3]
    have := blk_new (w.alloc (.cells #[.int .i64 i, .int .i64 l, .int .i64 c, .string lo, .string hi] 148)) (tripE 1 0 1)
    rw [show (w.alloc (.cells #[.int .i64 i, .int .i64 l, .int .i64 c, .string lo, .string hi] 148)).heap.size = w.heap.size + 1 by simp] at this
    exact blk_up this (up_alloc _ _)
  have BB : Hid (w3.heap[w.heap.size + 1 + 1]? = some (tripE 2147483647 3 4096)) := by
    rw [hw3]
    have := blk_new ((w.alloc (.cells #[.int .i64 i, .int .i64 l, .int .i64 c, .string lo, .string hi] 148)).alloc (tripE 1 0 1)) (tripE 2147483647 3 4096)
    rw [show ((w.alloc (.cells #[.int .i64 i, .int .i64 l, .int .i64 c, .string lo, .string hi] 148)).alloc (tripE 1 0 1)).heap.size = w.heap.size + 1 + 1 by simp] at this
    exact this
  clear hw3
  have x0 := blk_cell BX.out 0 _ rfl
  have x1 := blk_cell BX.out 1 _ rfl
  have x2 := blk_cell BX.out 2 _ rfl
  have x3 := blk_cell BX.out 3 _ rfl
  have x4 := blk_cell BX.out 4 _ rfl
  go_enter Tryz.func114, Tryz.ntmps114
  go_upto_region 3 with fail
  rw [HW3.out]
  go_wp2_with fail
  refine (HNO.out _).mono ?_
  rintro e w4 ⟨rfl, u4⟩
  have U : Hid (Below w.heap.size w w4) := up_trans U3.out u4.out
  have BX4 := hid (blk_up BX.out u4.out)
  have BA4 := hid (blk_up BA.out u4.out)
  have BB4 := hid (blk_up BB.out u4.out)
  unfold tripE at BA4 BB4
  clear u4 U3 BX BA BB x0 x1 x2 x3 x4 HW3
  generalize w.heap.size + 1 + 1 = NB at *
  generalize w.heap.size + 1 = NA at *
  go_wp2_with fail
  refine wp_loop_rounds 4 ?_
  rw [rounds_succ]
  have a0 := blk_cell BA4.out 0 _ rfl
  have c0 := blk_cell BB4.out 0 _ rfl
  cases b0
  · go_wp2_with fail
    go_quiet ((go_at_call 113; refine Calls.quiet_of_same (H0.out _)))
    go_wp2_with fail
    go_ret
    exact ⟨rfl, up_trans U.out (up_drewN _ _)⟩
  go_wp2_with fail
  go_quiet ((go_at_call 113; refine Calls.quiet_of_same (H0.out _)))
  replace U := hid (up_trans U.out (up_drewN w4 nq))
  replace BX4 := hid (blk_up BX4.out (up_drewN w4 nq))
  replace BA4 := hid (blk_up BA4.out (up_drewN w4 nq))
  replace BB4 := hid (blk_up BB4.out (up_drewN w4 nq))
  clear a0 c0
  generalize w4.drewN nq = w5 at *
  clear nq w4
  go_wp2_with fail
  rw [rounds_succ]
  have a1 := blk_cell BA4.out 1 _ rfl
  have c1 := blk_cell BB4.out 1 _ rfl
  cases b1
  · go_wp2_with fail
    go_quiet ((go_at_call 113; refine Calls.quiet_of_same (H1.out _)))
    go_wp2_with fail
    go_ret
    exact ⟨rfl, up_trans U.out (up_drewN _ _)⟩
  go_wp2_with fail
  go_quiet ((go_at_call 113; refine Calls.quiet_of_same (H1.out _)))
  replace U := hid (up_trans U.out (up_drewN w5 nq))
  replace BX4 := hid (blk_up BX4.out (up_drewN w5 nq))
  replace BA4 := hid (blk_up BA4.out (up_drewN w5 nq))
  replace BB4 := hid (blk_up BB4.out (up_drewN w5 nq))
  clear a1 c1
  generalize w5.drewN nq = w6 at *
  clear nq w5
  go_wp2_with fail
  rw [rounds_succ]
  have a2 := blk_cell BA4.out 2 _ rfl
  have c2 := blk_cell BB4.out 2 _ rfl
  cases b2
  · go_wp2_with fail
    go_quiet ((go_at_call 113; refine Calls.quiet_of_same (H2.out _)))
    go_wp2_with fail
    go_ret
    exact ⟨rfl, up_trans U.out (up_drewN _ _)⟩
  go_wp2_with fail
  go_quiet ((go_at_call 113; refine Calls.quiet_of_same (H2.out _)))
  replace U := hid (up_trans U.out (up_drewN w6 nq))
  replace BX4 := hid (blk_up BX4.out (up_drewN w6 nq))
  replace BA4 := hid (blk_up BA4.out (up_drewN w6 nq))
  replace BB4 := hid (blk_up BB4.out (up_drewN w6 nq))
  clear a2 c2
  generalize w6.drewN nq = w7 at *
  clear nq w6
  go_wp2_with fail
  rw [rounds_succ]
  have x0 := blk_cell BX4.out 0 _ rfl
  have x1 := blk_cell BX4.out 1 _ rfl
  have x2 := blk_cell BX4.out 2 _ rfl
  have x3 := blk_cell BX4.out 3 _ rfl
  have x4 := blk_cell BX4.out 4 _ rfl
  go_wp2_with fail
  refine (HTO.out _).mono ?_
  rintro e w8 ⟨rfl, u8⟩
  replace U := hid (up_trans U.out u8.out)
  replace BX4 := hid (blk_up BX4.out u8.out)
  clear x0 x1 x2 x3 x4 u8 BA4 BB4
  have x3 := blk_cell BX4.out 3 _ rfl
  have x4 := blk_cell BX4.out 4 _ rfl
  go_wp2_with fail
  refine wp_loop_rounds 3 ?_
  rw [rounds_succ]
  cases b3
  · go_wp2_with fail
    refine (H3.out _).mono ?_
    rintro e w9 ⟨rfl, rfl⟩
    go_wp2_with fail
    go_ret
    exact ⟨rfl, U⟩
  go_wp2_with fail
  refine (H3.out _).mono ?_
  rintro e w9 ⟨rfl, hw9⟩
  subst hw9
  go_wp2_with fail
  rw [rounds_succ]
  cases b4
  · go_wp2_with fail
    refine (H4.out _).mono ?_
    rintro e w9 ⟨rfl, rfl⟩
    go_wp2_with fail
    go_ret
    exact ⟨rfl, U⟩
  go_wp2_with fail
  refine (H4.out _).mono ?_
  rintro e w9 ⟨rfl, hw9⟩
  subst hw9
  go_wp2_with fail
  rw [rounds_succ]
  go_wp2_with fail
  go_ret
  exact ⟨rfl, U⟩
end Go.Proofs.YtnchjlimkgbfpaaGreatDoor
