/- The texts P4, P5, in this order. -/
import Derived.Test.YtnchjlimkgbfpaaDoorG05

/- The numbers that lists of names stand for, as a set. -/
namespace Go.Proofs.YtnchjlimkgbfpaaDoor
open Go.RowKit
set_option linter.unusedVariables false

def addId (ids : List Int) (x : Int) : List Int := if ids.contains x then ids else ids ++ [x]
def idsOf (l : List (List Int × Int)) : List Int := (l.map (·.2)).foldl addId []

theorem idsOf_snoc (l : List (List Int × Int)) (p : List Int × Int) : idsOf (l ++ [p]) = addId (idsOf l) p.2 := by
  simp [idsOf, List.foldl_append]

theorem addId_len (ids : List Int) (x : Int) : (addId ids x).length ≤ ids.length + 1 := by
  unfold addId
  split <;> simp

theorem idsOf_len (l : List (List Int × Int)) : (idsOf l).length ≤ l.length := by
  unfold idsOf
  have h : ∀ (m : List Int) (acc : List Int), (m.foldl addId acc).length ≤ acc.length + m.length := by
    intro m
    induction m with
    | nil => intro acc; simp
    | cons x m ih =>
      intro acc
      have h1 := ih (addId acc x)
      have h2 := addId_len acc x
      simp only [List.foldl_cons, List.length_cons]
      omega
  have := h (l.map (·.2)) []
  simpa using this

/-- Block b is a set of these numbers. -/
def SetW (w : World) (b : Nat) (ids : List Int) : Prop := ∃ D : DataW Unit, w.ownsMap Tryd.prog 3 unitElem b ids.length D ∧ Maps.Tidy D ∧ Maps.size D = ids.length ∧ ∀ x, Maps.has D (.int .i64 x) = ids.contains x

theorem own_tight {w : World} {b n : Nat} {D : DataW Unit} (h : w.ownsMap Tryd.prog 3 unitElem b n D) : w.ownsMap Tryd.prog 3 unitElem b (Maps.size D) D := by
  obtain ⟨es, clock, hb, F, hs, rfl⟩ := h
  exact ⟨es, clock, hb, F, by simp [Maps.size, length_sorted], rfl⟩

theorem wf_i64_of {x : Int} (h : In64 x) : (Lit.int .i64 x).wf = true := by
  refine WalkArith.wf_i64 ?_
  exact h

theorem SetW.made (w : World) : SetW (w.alloc (.map #[] 0)) w.heap.size [] :=
  ⟨.map [], World.ownsMap_made w Tryd.prog 3 unitElem, Maps.tidy_empty, rfl, fun x => rfl⟩

theorem SetW.lt {w : World} {b : Nat} {ids : List Int} (h : SetW w b ids) : b < w.heap.size := by
  obtain ⟨D, h1, _⟩ := h
  exact h1.lt

theorem SetW.kept {w w' : World} {b : Nat} {ids : List Int} {r : Option Nat} (h : SetW w b ids) (hg : w.grownBy w' r) (hne : some b ≠ r) : SetW w' b ids := by
  obtain ⟨D, h1, h2⟩ := h
  exact ⟨D, h1.kept hg hne, h2⟩

theorem SetW.up {w w' : World} {b : Nat} {ids : List Int} (h : SetW w b ids) (hb : Below w.heap.size w w') : SetW w' b ids := by
  obtain ⟨D, ⟨es, clock, hh, r⟩, h2⟩ := h
  exact ⟨D, ⟨es, clock, (hb.block b (Array.getElem?_eq_some_iff.1 hh).1).trans hh, r⟩, h2⟩

theorem SetW.put {w' : World} {b : Nat} {ids : List Int} {x : Int} {D : DataW Unit} (hx : In64 x) (h2 : Maps.Tidy D) (h3 : Maps.size D = ids.length) (h4 : ∀ y, Maps.has D (.int .i64 y) = ids.contains y)
    (h : w'.ownsMap Tryd.prog 3 unitElem b (ids.length + 1) (D.put (.int .i64 x) (.agg []))) : SetW w' b (addId ids x) := by
  have hk : WideAt.IsKeyLit (.int .i64 x) := trivial
  have hsz : Maps.size (D.put (.int .i64 x) (.agg [])) = (addId ids x).length := by
    rw [Maps.size_put h2, h4 x, h3]
    unfold addId
    split <;> simp
  refine ⟨D.put (.int .i64 x) (.agg []), ?_, h2.put hk _, hsz, fun y => ?_⟩
  · have := own_tight h
    rw [hsz] at this
    exact this
  · by_cases e : y = x
    · subst e
      rw [Maps.has_put_same h2.isMap hk]
      unfold addId
      split <;> simp_all
    · rw [Maps.has_put_other (by intro q; injection q with _ q; exact e q), h4 y]
      unfold addId
      split
      · rfl
      · simp [e]

/-- A store of a number into the set. -/
theorem wpList_set_put (w : World) {ops : Array Oper} {rest : List Oper} {o : Oper} {a : Act} {Q : Exit → Act → World → Prop} (hgd : o.guard = none) (m x v : Operand) (hop : o.op = Op.mapUpdate 97 m x v)
    (b : Nat) (ids : List Int) (hm : a.eval m = .map (some b)) (hs : SetW w b ids) (hn : ids.length < maxLen) (id : Int) (hid : In64 id) (hx : a.eval x = .int .i64 id) (hv : a.eval v = .agg #[])
    (hK : ∀ w', SetW w' b (addId ids id) → w.grownBy w' (some b) → wpList Tryd.prog ops Q rest (a.put o.dst undef) w') : wpList Tryd.prog ops Q (o :: rest) a w := by
  obtain ⟨D, h1, h2, h3, h4⟩ := hs
  refine wpList_mapUpdate_own w hgd m x v 97 hop 3 68 (Maps.int_keyed Tryd.underlying3) Tryd.underlying97 unitElem b ids.length D hm h1 hn _ _ (.int .i64 id) hx hv (Maps.keyOf_int_mk Tryd.underlying3 (wf_i64_of hid)) (.agg []) [] unitElem_mk ?_
  intro w' r1 r2
  exact hK w' (SetW.put hid h2 h3 h4 r1) r2

/-- Lists of names, one behind the other. -/
def allN (ls : List (Value × List (List Int × Int))) : List (List Int × Int) := (ls.map (·.2)).flatten

theorem allN_snoc (ls : List (Value × List (List Int × Int))) (k : Nat) (h : k < ls.length) (d : Value × List (List Int × Int)) : allN (ls.take (k + 1)) = allN (ls.take k) ++ (ls.getD k d).2 := by
  rw [take_snoc ls k d h]
  simp [allN]

theorem allN_len (ls : List (Value × List (List Int × Int))) (k : Nat) (h : k < ls.length) (d : Value × List (List Int × Int)) : (allN (ls.take k)).length + (ls.getD k d).2.length ≤ (allN ls).length := by
  have e := allN_snoc ls k h d
  have e2 : allN ls = allN (ls.take (k + 1)) ++ allN (ls.drop (k + 1)) := by
    unfold allN
    rw [← List.flatten_append, ← List.map_append, List.take_append_drop]
  rw [e2, e, List.length_append, List.length_append]
  omega

set_option maxHeartbeats 1000000 in
theorem numbers_any (ls : List (Value × List (List Int × Int))) (B cap : Nat) (w : World) (hne : ls.length ≤ 2) (hc : ∀ j, j < ls.length → w.cell? ⟨B, j, none⟩ = some (ls.getD j (.slice none 0 0, [])).1)
    (hN : ∀ j, j < ls.length → NamesW w (ls.getD j (.slice none 0 0, [])).1 (ls.getD j (.slice none 0 0, [])).2) (htot : (allN ls).length ≤ maxLen) :
    Calls Tryd.prog 45 #[.slice (some ⟨B, 0, none⟩) ls.length cap] w fun e w' => e = .returned (.map (some w.heap.size)) ∧ SetW w' w.heap.size (idsOf (allN ls)) ∧ Below w.heap.size w w' := by
  have HC : Hid (∀ j, j < ls.length → w.cell? ⟨B, j, none⟩ = some (ls.getD j (.slice none 0 0, [])).1) := hc
  have HN : Hid (∀ j, j < ls.length → NamesW w (ls.getD j (.slice none 0 0, [])).1 (ls.getD j (.slice none 0 0, [])).2) := hN
  clear hc hN
  unfold maxLen at htot
  have hmm := @run_makeMap Tryd.prog
  go_enter Tryd.func45, Tryd.ntmps45
  go_wp2
  go_loopw [11] (fun i wr => ∃ k : Nat, k ≤ ls.length ∧ i = .int .i64 k ∧ Hid (SetW wr w.heap.size (idsOf (allN (ls.take k)))) ∧ Hid (Below w.heap.size w wr)) (fun i _ => ls.length - (intOf i).toNat)
  case atStart => exact ⟨0, Nat.zero_le _, rfl, SetW.made w, up_al (Below.refl _ _) _⟩
  case round =>
    obtain ⟨k, hk, rfl, HS, up⟩ := hrel
    by_cases hlt : k < ls.length
    · have hlt' : (k : Int) < (ls.length : Int) := by omega
      have ck := HC.out k hlt
      have ck' := (up.out.cell (p := ⟨B, k, none⟩) (World.block_lt_of_cell? w _ ck)).trans ck
      have HNk : Hid (NamesW w (ls.getD k (.slice none 0 0, [])).1 (ls.getD k (.slice none 0 0, [])).2) := HN.out k hlt
      have HSn : Hid (allN (ls.take (k + 1)) = allN (ls.take k) ++ (ls.getD k (.slice none 0 0, [])).2) := allN_snoc ls k hlt _
      have hlen := allN_len ls k hlt (.slice none 0 0, [])
      clear ck
      generalize ls.getD k (.slice none 0 0, []) = y at *
      obtain ⟨yv, l⟩ := y
      simp only at ck' HNk HSn hlen
      obtain ⟨a, cap2, rfl, hcap2, hmax2⟩ := HNk.out.len
      generalize allN (ls.take k) = done at *
      go_wp2
      go_loopw [17] (fun i wr => ∃ j : Nat, j ≤ l.length ∧ i = .int .i64 j ∧ Hid (SetW wr w.heap.size (idsOf (done ++ l.take j))) ∧ Hid (Below w.heap.size w wr)) (fun i _ => l.length - (intOf i).toNat)
      case atStart => exact ⟨0, Nat.zero_le _, rfl, by rw [List.take_zero, List.append_nil]; exact HS.out, up.out⟩
      case round =>
        clear HS up ck'
        obtain ⟨j, hj, rfl, HS, up⟩ := hrel
        by_cases hjl : j < l.length
        · have hjl' : (j : Int) < (l.length : Int) := by omega
          obtain ⟨b, off, cap', e, _, _, c0, c1, ho, _, hi'⟩ := (HNk.out.up up.out).at j hjl
          simp at e
          obtain ⟨rfl, rfl⟩ := e
          have HT : Hid (l.take (j + 1) = l.take j ++ [l.getD j ([], 0)]) := take_snoc l j _ hjl
          have HI : Hid (In64 (l.getD j ([], 0)).2) := hi'
          have HSl : Hid ((idsOf (done ++ l.take j)).length < maxLen) := by
            have := idsOf_len (done ++ l.take j)
            rw [List.length_append, List.length_take] at this
            unfold Hid maxLen
            omega
          have hws := SetW.lt HS.out
          generalize l.getD j ([], 0) = y at *
          obtain ⟨ys, yi⟩ := y
          simp only at c0 c1 HI HT
          clear ho hi'
          have HG : Hid (SetW wr w.heap.size (idsOf (done ++ l.take j))) := HS.out
          have HSet : Hid (SetW (wr.alloc (.cells #[.string (strOfNums ys), .int .i64 yi] 74)) w.heap.size (idsOf (done ++ l.take j))) := HS.out.up (up_al (Below.refl _ _) _)
          have HUp : Hid (Below w.heap.size w (wr.alloc (.cells #[.string (strOfNums ys), .int .i64 yi] 74))) := up_al up.out _
          go_wp2_with (at_mapUpdate; refine wpList_set_put _ rfl _ _ _ rfl w.heap.size _ rfl HSet.out HSl.out yi HI.out rfl rfl ?_; intro w1 hset1 hgrow1)
          have hset2 : SetW w1 w.heap.size (idsOf (done ++ l.take (j + 1))) := by
            rw [HT.out, ← List.append_assoc, idsOf_snoc]
            exact hset1
          exact ⟨⟨j + 1, by omega, by go_num, hset2, HUp.out.grown hgrow1 HUp.out.size (fun k hk => by injection hk with hk; omega)⟩, by simp [intOf]; omega⟩
        · have hjl' : ¬ (j : Int) < (l.length : Int) := by omega
          obtain rfl : j = l.length := by omega
          have HS2 : Hid (SetW wr w.heap.size (idsOf (allN (ls.take (k + 1))))) := by
            unfold Hid
            rw [HSn.out, ← List.take_length (l := l)]
            exact HS.out
          go_wp2
          exact ⟨⟨k + 1, by omega, by go_num, HS2, up⟩, by simp [intOf]; omega⟩
    · have hlt' : ¬ (k : Int) < (ls.length : Int) := by omega
      obtain rfl : k = ls.length := by omega
      have HS2 : Hid (SetW wr w.heap.size (idsOf (allN ls))) := by
        have := HS.out
        rw [List.take_length] at this
        exact this
      go_wp2
      go_ret
      exact ⟨rfl, HS2.out, up.out⟩
end Go.Proofs.YtnchjlimkgbfpaaDoor

/- The program's test of a state: its bounds, its files, its names. -/
namespace Go.Proofs.YtnchjlimkgbfpaaDoor
open Go.RowKit
set_option linter.unusedVariables false

/-- w' is w with the box o at its end, but for draws and later blocks. -/
def BoxW (w : World) (o : Obj) (w' : World) : Prop := Below (w.heap.size + 1) (w.alloc o) w'

theorem BoxW.start (w : World) (o : Obj) : BoxW w o (w.alloc o) := Below.refl _ _
theorem BoxW.size {w w' : World} {o : Obj} (h : BoxW w o w') : w.heap.size + 1 ≤ w'.heap.size := by
  have := Below.size h
  simpa using this
theorem BoxW.up {w w' : World} {o : Obj} (h : BoxW w o w') : Below w.heap.size w w' := (up_al (Below.refl _ _) o).trans (Below.mono h (by omega))
theorem BoxW.step {w w' w'' : World} {o : Obj} (h : BoxW w o w') (k : Below w'.heap.size w' w'') : BoxW w o w'' := Below.trans h (k.mono h.size)
theorem BoxW.cell {w w' : World} {cs : Array Value} {t : TypeId} (h : BoxW w (.cells cs t) w') (i : Nat) (x : Value) (hi : cs[i]? = some x) : w'.cell? ⟨w.heap.size, i, none⟩ = some x := by
  have e := World.cell?_alloc_new w cs t i
  rw [hi] at e
  exact (Below.cell h (p := ⟨w.heap.size, i, none⟩) (by simp)).trans e

def boundsOf (s : St) : Bool := decide (0 ≤ s.cap) && decide (s.cap ≤ 16777216) && decide (1 ≤ s.next) && decide (s.next ≤ 2147483647) && decide (s.files.length ≤ 256)

def prevId (l : List (Int × List Int × Int)) (k : Nat) : Int := if k = 0 then 0 else (l.getD (k - 1) (0, [], 0)).1
def okFile (l : List (Int × List Int × Int)) (next : Int) (k : Nat) : Bool :=
  decide (prevId l k < (l.getD k (0, [], 0)).1) && decide ((l.getD k (0, [], 0)).1 < next) && decide (0 ≤ (l.getD k (0, [], 0)).2.2) && decide ((l.getD k (0, [], 0)).2.2 ≤ (l.getD k (0, [], 0)).2.1.length)
def filesMayOf (s : St) : Bool := (List.range s.files.length).all (okFile s.files s.next) && decide (usedOf s.files ≤ s.cap)

theorem all_range_no {n : Nat} {p : Nat → Bool} (k : Nat) (h : k < n) (hn : p k = false) : (List.range n).all p = false := by
  rw [List.all_eq_false]
  exact ⟨k, List.mem_range.2 h, by rw [hn]; decide⟩
theorem all_range_yes {n : Nat} {p : Nat → Bool} (h : ∀ i, i < n → p i = true) : (List.range n).all p = true := by
  rw [List.all_eq_true]
  intro i hi
  exact h i (List.mem_range.1 hi)
theorem all_range_get {n : Nat} {p : Nat → Bool} (h : (List.range n).all p = true) (i : Nat) (hi : i < n) : p i = true := List.all_eq_true.1 h i (List.mem_range.2 hi)

set_option maxHeartbeats 1000000 in
theorem boundsMay_any (s : St) (v : Value) (w : World) (hv : StW w v s) :
    Calls Tryd.prog 32 #[v] w fun e w' => e = .returned (.bool (boundsOf s)) ∧ Below w.heap.size w w' := by
  obtain ⟨vf, vn, vs, rfl, hf, hn, hs, h1, h2⟩ := hv
  obtain ⟨a, cap, rfl, hcap, hmax⟩ := hf.len
  clear hf hn hs
  go_enter Tryd.func32, Tryd.ntmps32
  unfold boundsOf
  by_cases c1 : 0 ≤ s.cap
  · by_cases c2 : s.cap ≤ 16777216
    · by_cases c3 : 1 ≤ s.next
      · by_cases c4 : s.next ≤ 2147483647
        · by_cases c5 : s.files.length ≤ 256
          · have c5' : (s.files.length : Int) ≤ 256 := by omega
            go_wp2
            go_ret
            exact ⟨by simp [*] <;> omega, up_al (Below.refl _ _) _⟩
          · have c5' : ¬ (s.files.length : Int) ≤ 256 := by omega
            go_wp2
            go_ret
            exact ⟨by simp [*] <;> omega, up_al (Below.refl _ _) _⟩
        · go_wp2
          go_ret
          exact ⟨by simp [*] <;> omega, up_al (Below.refl _ _) _⟩
      · go_wp2
        go_ret
        exact ⟨by simp [*] <;> omega, up_al (Below.refl _ _) _⟩
    · go_wp2
      go_ret
      exact ⟨by simp [*] <;> omega, up_al (Below.refl _ _) _⟩
  · go_wp2
    go_ret
    exact ⟨by simp [*] <;> omega, up_al (Below.refl _ _) _⟩

set_option maxHeartbeats 1000000 in
theorem filesMay_any (s : St) (v : Value) (w : World) (hv : StW w v s) (hle : s.files.length ≤ 256) :
    Calls Tryd.prog 33 #[v] w fun e w' => e = .returned (.bool (filesMayOf s)) ∧ Below w.heap.size w w' := by
  obtain ⟨vf, vn, vs, rfl, hf, hn, hs, hic, hin⟩ := hv
  have HV : Hid (FilesW w vf s.files) := hf
  obtain ⟨a, cap, rfl, hcap, hmax⟩ := hf.len
  unfold maxLen at hmax
  clear hf hn hs
  have HNo : Hid (∀ k, k < s.files.length → okFile s.files s.next k = false → filesMayOf s = false) := by
    intro k hk h
    unfold filesMayOf
    rw [all_range_no k hk h]
    rfl
  have HYes : Hid ((∀ k, k < s.files.length → okFile s.files s.next k = true) → filesMayOf s = decide (usedOf s.files ≤ s.cap)) := by
    intro h
    unfold filesMayOf
    rw [all_range_yes h]
    rfl
  go_enter Tryd.func33, Tryd.ntmps33
  go_wp2
  go_loopw [3, 9] (fun last i wr => ∃ k : Nat, k ≤ s.files.length ∧ i = .int .i64 k ∧ last = .int .i64 (prevId s.files k) ∧ Hid (∀ j, j < k → okFile s.files s.next j = true) ∧ Hid (BoxW w (.cells #[.int .i64 s.cap, .slice a s.files.length cap, vn, vs, .int .i64 s.next] 42) wr)) (fun _ i _ => s.files.length - (intOf i).toNat)
  case atStart => exact ⟨0, Nat.zero_le _, rfl, rfl, (fun j hj => by omega), BoxW.start _ _⟩
  case round =>
    obtain ⟨k, hk, rfl, rfl, HK, bx⟩ := hrel
    have q0 := bx.out.cell 0 _ rfl
    have q1 := bx.out.cell 1 _ rfl
    have q4 := bx.out.cell 4 _ rfl
    have HF2 : Hid (FilesW wr (.slice a s.files.length cap) s.files) := HV.out.up bx.out.up
    by_cases hlt : k < s.files.length
    · have hlt' : (k : Int) < (s.files.length : Int) := by omega
      obtain ⟨b, off, cap', u, e, _, _, c0, c1, c2, ho, hdl, hi0, hi2⟩ := HF2.out.at k hlt
      simp at e
      obtain ⟨rfl, rfl⟩ := e
      have q4a : ∀ o, (wr.alloc o).cell? ⟨w.heap.size, 4, none⟩ = some (.int .i64 s.next) := fun o => (bx.out.step (up_al (Below.refl _ _) o)).cell 4 _ rfl
      have HN2 : Hid (okFile s.files s.next k = false → filesMayOf s = false) := HNo.out k hlt
      have HOk : Hid (okFile s.files s.next k = (decide (prevId s.files k < (s.files.getD k (0, [], 0)).1) && decide ((s.files.getD k (0, [], 0)).1 < s.next) && decide (0 ≤ (s.files.getD k (0, [], 0)).2.2) && decide ((s.files.getD k (0, [], 0)).2.2 ≤ (s.files.getD k (0, [], 0)).2.1.length))) := rfl
      have HP : Hid (prevId s.files (k + 1) = (s.files.getD k (0, [], 0)).1) := by simp [Hid, prevId]
      generalize s.files.getD k (0, [], 0) = y at *
      obtain ⟨yi, yd, ys⟩ := y
      simp only at c0 c1 c2 ho hdl hi0 hi2 HOk HP
      obtain ⟨au, capu, rfl, _⟩ := ho.slice
      clear ho
      generalize prevId s.files k = pv at *
      by_cases d1 : yi ≤ pv
      · have HR : Hid (filesMayOf s = false) := HN2.out (by rw [HOk.out]; simp; omega)
        go_wp2
        go_ret
        rw [HR.out]
        exact ⟨rfl, up_al bx.out.up _⟩
      · by_cases d2 : s.next ≤ yi
        · have HR : Hid (filesMayOf s = false) := HN2.out (by rw [HOk.out]; simp; omega)
          go_wp2
          go_ret
          rw [HR.out]
          exact ⟨rfl, up_al bx.out.up _⟩
        · by_cases d3 : ys < 0
          · have HR : Hid (filesMayOf s = false) := HN2.out (by rw [HOk.out]; simp; omega)
            go_wp2
            go_ret
            rw [HR.out]
            exact ⟨rfl, up_al bx.out.up _⟩
          · by_cases d4 : (yd.length : Int) < ys
            · have HR : Hid (filesMayOf s = false) := HN2.out (by rw [HOk.out]; simp; omega)
              go_wp2
              go_ret
              rw [HR.out]
              exact ⟨rfl, up_al bx.out.up _⟩
            · have HK2 : Hid (∀ j, j < k + 1 → okFile s.files s.next j = true) := by
                intro j hj
                rcases Nat.lt_or_ge j k with c | c
                · exact HK.out j c
                · obtain rfl : j = k := by omega
                  rw [HOk.out]
                  simp
                  omega
              go_wp2
              exact ⟨⟨k + 1, by omega, by go_num, by rw [HP.out], HK2, bx.out.step (up_al (Below.refl _ _) _)⟩, by simp [intOf]; omega⟩
    · have hlt' : ¬ (k : Int) < (s.files.length : Int) := by omega
      obtain rfl : k = s.files.length := by omega
      have HR : Hid (filesMayOf s = decide (usedOf s.files ≤ s.cap)) := HYes.out HK.out
      have p0 := cell_up q0
      have p1 := cell_up q1
      go_wp2_with fail
      refine wp_region_up (by kernel_rfl) (by kernel_rfl) ?_
      repeat (quiet_step ((go_at_call 42; refine calls_up (used_any s.files _ _ (HF2.out.up (UpW.up _)) hle))))
      refine wpQuiet_nil ?_
      intro _ hw'
      obtain ⟨p, hw''⟩ := hw'
      subst hw''
      go_wp2
      go_ret
      rw [HR.out]
      exact ⟨rfl, up_trans bx.out.up p.up⟩
end Go.Proofs.YtnchjlimkgbfpaaDoor
