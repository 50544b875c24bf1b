/- The numbers that lists of names stand for, as a set. -/
import Derived.Test.YtoceddpjkodfkaaP3
namespace Go.Proofs.Ytoceddpjkodfkaa
open Go.RowKit
set_option linter.unusedVariables false

def addId (ids : List Int) (x : Int) : List Int := if ids.contains x then ids else ids ++ [x]
def idsOf (l : List (List Int × Int)) : List Int := (l.map (·.2)).foldl addId []

theorem idsOf_snoc (l : List (List Int × Int)) (p : List Int × Int) : idsOf (l ++ [p]) = addId (idsOf l) p.2 := by
  simp [idsOf, List.foldl_append]

theorem addId_len (ids : List Int) (x : Int) : (addId ids x).length ≤ ids.length + 1 := by
  unfold addId
  split <;> simp

theorem idsOf_len (l : List (List Int × Int)) : (idsOf l).length ≤ l.length := by
  unfold idsOf
  have h : ∀ (m : List Int) (acc : List Int), (m.foldl addId acc).length ≤ acc.length + m.length := by
    intro m
    induction m with
    | nil => intro acc; simp
    | cons x m ih =>
      intro acc
      have h1 := ih (addId acc x)
      have h2 := addId_len acc x
      simp only [List.foldl_cons, List.length_cons]
      omega
  have := h (l.map (·.2)) []
  simpa using this

/-- Block b is a set of these numbers. -/
def SetW (w : World) (b : Nat) (ids : List Int) : Prop := ∃ D : DataW Unit, w.ownsMap Try.prog 3 unitElem b ids.length D ∧ Maps.Tidy D ∧ Maps.size D = ids.length ∧ ∀ x, Maps.has D (.int .i64 x) = ids.contains x

theorem own_tight {w : World} {b n : Nat} {D : DataW Unit} (h : w.ownsMap Try.prog 3 unitElem b n D) : w.ownsMap Try.prog 3 unitElem b (Maps.size D) D := by
  obtain ⟨es, clock, hb, F, hs, rfl⟩ := h
  exact ⟨es, clock, hb, F, by simp [Maps.size, length_sorted], rfl⟩

theorem wf_i64_of {x : Int} (h : In64 x) : (Lit.int .i64 x).wf = true := by
  refine WalkArith.wf_i64 ?_
  exact h

theorem SetW.made (w : World) : SetW (w.alloc (.map #[] 0)) w.heap.size [] :=
  ⟨.map [], World.ownsMap_made w Try.prog 3 unitElem, Maps.tidy_empty, rfl, fun x => rfl⟩

theorem SetW.lt {w : World} {b : Nat} {ids : List Int} (h : SetW w b ids) : b < w.heap.size := by
  obtain ⟨D, h1, _⟩ := h
  exact h1.lt

theorem SetW.kept {w w' : World} {b : Nat} {ids : List Int} {r : Option Nat} (h : SetW w b ids) (hg : w.grownBy w' r) (hne : some b ≠ r) : SetW w' b ids := by
  obtain ⟨D, h1, h2⟩ := h
  exact ⟨D, h1.kept hg hne, h2⟩

theorem SetW.up {w w' : World} {b : Nat} {ids : List Int} (h : SetW w b ids) (hb : Below w.heap.size w w') : SetW w' b ids := by
  obtain ⟨D, ⟨es, clock, hh, r⟩, h2⟩ := h
  exact ⟨D, ⟨es, clock, (hb.block b (Array.getElem?_eq_some_iff.1 hh).1).trans hh, r⟩, h2⟩

theorem SetW.put {w' : World} {b : Nat} {ids : List Int} {x : Int} {D : DataW Unit} (hx : In64 x) (h2 : Maps.Tidy D) (h3 : Maps.size D = ids.length) (h4 : ∀ y, Maps.has D (.int .i64 y) = ids.contains y)
    (h : w'.ownsMap Try.prog 3 unitElem b (ids.length + 1) (D.put (.int .i64 x) (.agg []))) : SetW w' b (addId ids x) := by
  have hk : WideAt.IsKeyLit (.int .i64 x) := trivial
  have hsz : Maps.size (D.put (.int .i64 x) (.agg [])) = (addId ids x).length := by
    rw [Maps.size_put h2, h4 x, h3]
    unfold addId
    split <;> simp
  refine ⟨D.put (.int .i64 x) (.agg []), ?_, h2.put hk _, hsz, fun y => ?_⟩
  · have := own_tight h
    rw [hsz] at this
    exact this
  · by_cases e : y = x
    · subst e
      rw [Maps.has_put_same h2.isMap hk]
      unfold addId
      split <;> simp_all
    · rw [Maps.has_put_other (by intro q; injection q with _ q; exact e q), h4 y]
      unfold addId
      split
      · rfl
      · simp [e]

/-- A store of a number into the set. -/
theorem wpList_set_put (w : World) {ops : Array Oper} {rest : List Oper} {o : Oper} {a : Act} {Q : Exit → Act → World → Prop} (hgd : o.guard = none) (m x v : Operand) (hop : o.op = Op.mapUpdate 109 m x v)
    (b : Nat) (ids : List Int) (hm : a.eval m = .map (some b)) (hs : SetW w b ids) (hn : ids.length < maxLen) (id : Int) (hid : In64 id) (hx : a.eval x = .int .i64 id) (hv : a.eval v = .agg #[])
    (hK : ∀ w', SetW w' b (addId ids id) → w.grownBy w' (some b) → wpList Try.prog ops Q rest (a.put o.dst undef) w') : wpList Try.prog ops Q (o :: rest) a w := by
  obtain ⟨D, h1, h2, h3, h4⟩ := hs
  refine wpList_mapUpdate_own w hgd m x v 109 hop 3 112 (Maps.int_keyed Try.underlying3) Try.underlying109 unitElem b ids.length D hm h1 hn _ _ (.int .i64 id) hx hv (Maps.keyOf_int_mk Try.underlying3 (wf_i64_of hid)) (.agg []) [] unitElem_mk ?_
  intro w' r1 r2
  exact hK w' (SetW.put hid h2 h3 h4 r1) r2

/-- Lists of names, one behind the other. -/
def allN (ls : List (Value × List (List Int × Int))) : List (List Int × Int) := (ls.map (·.2)).flatten

theorem allN_snoc (ls : List (Value × List (List Int × Int))) (k : Nat) (h : k < ls.length) (d : Value × List (List Int × Int)) : allN (ls.take (k + 1)) = allN (ls.take k) ++ (ls.getD k d).2 := by
  rw [take_snoc ls k d h]
  simp [allN]

theorem allN_len (ls : List (Value × List (List Int × Int))) (k : Nat) (h : k < ls.length) (d : Value × List (List Int × Int)) : (allN (ls.take k)).length + (ls.getD k d).2.length ≤ (allN ls).length := by
  have e := allN_snoc ls k h d
  have e2 : allN ls = allN (ls.take (k + 1)) ++ allN (ls.drop (k + 1)) := by
    unfold allN
    rw [← List.flatten_append, ← List.map_append, List.take_append_drop]
  rw [e2, e, List.length_append, List.length_append]
  omega

set_option maxHeartbeats 1000000 in
theorem numbers_any (ls : List (Value × List (List Int × Int))) (B cap : Nat) (w : World) (hne : ls.length ≤ 2) (hc : ∀ j, j < ls.length → w.cell? ⟨B, j, none⟩ = some (ls.getD j (.slice none 0 0, [])).1)
    (hN : ∀ j, j < ls.length → NamesW w (ls.getD j (.slice none 0 0, [])).1 (ls.getD j (.slice none 0 0, [])).2) (htot : (allN ls).length ≤ maxLen) :
    Calls Try.prog 64 #[.slice (some ⟨B, 0, none⟩) ls.length cap] w fun e w' => e = .returned (.map (some w.heap.size)) ∧ SetW w' w.heap.size (idsOf (allN ls)) ∧ Below w.heap.size w w' := by
  have HC : Hid (∀ j, j < ls.length → w.cell? ⟨B, j, none⟩ = some (ls.getD j (.slice none 0 0, [])).1) := hc
  have HN : Hid (∀ j, j < ls.length → NamesW w (ls.getD j (.slice none 0 0, [])).1 (ls.getD j (.slice none 0 0, [])).2) := hN
  clear hc hN
  unfold maxLen at htot
  have hmm := @run_makeMap Try.prog
  go_enter Try.func64, Try.ntmps64
  go_wp2
  go_loopw [11] (fun i wr => ∃ k : Nat, k ≤ ls.length ∧ i = .int .i64 k ∧ Hid (SetW wr w.heap.size (idsOf (allN (ls.take k)))) ∧ Hid (Below w.heap.size w wr)) (fun i _ => ls.length - (intOf i).toNat)
  case atStart => exact ⟨0, Nat.zero_le _, rfl, SetW.made w, up_al (Below.refl _ _) _⟩
  case round =>
    obtain ⟨k, hk, rfl, HS, up⟩ := hrel
    by_cases hlt : k < ls.length
    · have hlt' : (k : Int) < (ls.length : Int) := by omega
      have ck := HC.out k hlt
      have ck' := (up.out.cell (p := ⟨B, k, none⟩) (World.block_lt_of_cell? w _ ck)).trans ck
      have HNk : Hid (NamesW w (ls.getD k (.slice none 0 0, [])).1 (ls.getD k (.slice none 0 0, [])).2) := HN.out k hlt
      have HSn : Hid (allN (ls.take (k + 1)) = allN (ls.take k) ++ (ls.getD k (.slice none 0 0, [])).2) := allN_snoc ls k hlt _
      have hlen := allN_len ls k hlt (.slice none 0 0, [])
      clear ck
      generalize ls.getD k (.slice none 0 0, []) = y at *
      obtain ⟨yv, l⟩ := y
      simp only at ck' HNk HSn hlen
      obtain ⟨a, cap2, rfl, hcap2, hmax2⟩ := HNk.out.len
      generalize allN (ls.take k) = done at *
      go_wp2
      go_loopw [17] (fun i wr => ∃ j : Nat, j ≤ l.length ∧ i = .int .i64 j ∧ Hid (SetW wr w.heap.size (idsOf (done ++ l.take j))) ∧ Hid (Below w.heap.size w wr)) (fun i _ => l.length - (intOf i).toNat)
      case atStart => exact ⟨0, Nat.zero_le _, rfl, by rw [List.take_zero, List.append_nil]; exact HS.out, up.out⟩
      case round =>
        clear HS up ck'
        obtain ⟨j, hj, rfl, HS, up⟩ := hrel
        by_cases hjl : j < l.length
        · have hjl' : (j : Int) < (l.length : Int) := by omega
          obtain ⟨b, off, cap', e, _, _, c0, c1, ho, _, hi'⟩ := (HNk.out.up up.out).at j hjl
          simp at e
          obtain ⟨rfl, rfl⟩ := e
          have HT : Hid (l.take (j + 1) = l.take j ++ [l.getD j ([], 0)]) := take_snoc l j _ hjl
          have HI : Hid (In64 (l.getD j ([], 0)).2) := hi'
          have HSl : Hid ((idsOf (done ++ l.take j)).length < maxLen) := by
            have := idsOf_len (done ++ l.take j)
            rw [List.length_append, List.length_take] at this
            unfold Hid maxLen
            omega
          have hws := SetW.lt HS.out
          generalize l.getD j ([], 0) = y at *
          obtain ⟨ys, yi⟩ := y
          simp only at c0 c1 HI HT
          clear ho hi'
          have HG : Hid (SetW wr w.heap.size (idsOf (done ++ l.take j))) := HS.out
          have HSet : Hid (SetW (wr.alloc (.cells #[.string (strOfNums ys), .int .i64 yi] 73)) w.heap.size (idsOf (done ++ l.take j))) := HS.out.up (up_al (Below.refl _ _) _)
          have HUp : Hid (Below w.heap.size w (wr.alloc (.cells #[.string (strOfNums ys), .int .i64 yi] 73))) := up_al up.out _
          go_wp2_with (at_mapUpdate; refine wpList_set_put _ rfl _ _ _ rfl w.heap.size _ rfl HSet.out HSl.out yi HI.out rfl rfl ?_; intro w1 hset1 hgrow1)
          have hset2 : SetW w1 w.heap.size (idsOf (done ++ l.take (j + 1))) := by
            rw [HT.out, ← List.append_assoc, idsOf_snoc]
            exact hset1
          exact ⟨⟨j + 1, by omega, by go_num, hset2, HUp.out.grown hgrow1 HUp.out.size (fun k hk => by injection hk with hk; omega)⟩, by simp [intOf]; omega⟩
        · have hjl' : ¬ (j : Int) < (l.length : Int) := by omega
          obtain rfl : j = l.length := by omega
          have HS2 : Hid (SetW wr w.heap.size (idsOf (allN (ls.take (k + 1))))) := by
            unfold Hid
            rw [HSn.out, ← List.take_length (l := l)]
            exact HS.out
          go_wp2
          exact ⟨⟨k + 1, by omega, by go_num, HS2, up⟩, by simp [intOf]; omega⟩
    · have hlt' : ¬ (k : Int) < (ls.length : Int) := by omega
      obtain rfl : k = ls.length := by omega
      have HS2 : Hid (SetW wr w.heap.size (idsOf (allN ls))) := by
        have := HS.out
        rw [List.take_length] at this
        exact this
      go_wp2
      go_ret
      exact ⟨rfl, HS2.out, up.out⟩
end Go.Proofs.Ytoceddpjkodfkaa
