/- The walk of ManifestNeeds. -/
import Derived.Test.YtnchjlimkgbfpaaDoorG11
import Derived.Test.YtnchjlimkgbfpaaDoorG12
import Derived.Test.YtnchjlimkgbfpaaDoorT3
import Derived.Deep.CutRange
import Derived.Deep.RegionHeld3
namespace Go.Proofs.YtnchjlimkgbfpaaDoor
open Go.RowKit
set_option linter.unusedVariables false
set_option linter.unusedSimpArgs false

/-- What the statement has done with the first i names: so many of them are orphans. -/
def cntO (all : List (List Int)) (p : List Int → Bool) (i : Nat) : Nat := ((all.take i).filter p).length
theorem cntO_zero (all : List (List Int)) (p : List Int → Bool) : cntO all p 0 = 0 := rfl
theorem cntO_succ (all : List (List Int)) (p : List Int → Bool) (i : Nat) (hi : i < all.length) : cntO all p (i + 1) = cntO all p i + (if p (all.getD i []) = true then 1 else 0) := by
  unfold cntO
  rw [filter_take_snoc p all i [] hi, List.length_append]
  congr 1
  split <;> rfl
theorem cntO_all (all : List (List Int)) (p : List Int → Bool) : cntO all p all.length = (all.filter p).length := by unfold cntO; rw [List.take_length]
/-- The next orphan is this name, just if this name is one. -/
theorem cntO_at (all : List (List Int)) (p : List Int → Bool) (i : Nat) (hi : i < all.length) : (p (all.getD i []) = true ↔ cntO all p i < (all.filter p).length ∧ (all.filter p).getD (cntO all p i) [] = all.getD i []) := by
  have e : all.filter p = (all.take i).filter p ++ (all.drop i).filter p := by rw [← List.filter_append, List.take_append_drop]
  have ed : all.drop i = all.getD i [] :: all.drop (i + 1) := by
    rw [List.drop_eq_getElem_cons hi]
    simp [List.getD, hi]
  constructor
  · intro h
    rw [e, ed, List.filter_cons_of_pos h]
    unfold cntO
    refine ⟨by simp, ?_⟩
    rw [List.getD_eq_getElem?_getD, List.getElem?_append_right (Nat.le_refl _)]
    simp
  · rintro ⟨h1, h2⟩
    have hm : (all.filter p).getD (cntO all p i) [] ∈ all.filter p := by
      rw [List.getD_eq_getElem?_getD, List.getElem?_eq_getElem h1]
      exact List.getElem_mem _
    rw [h2] at hm
    exact (List.mem_filter.1 hm).2
theorem parR_need (ids : List Int) (id log : Int) (x : List Int) : ∃ (k n : Int) (b : Bool), parR (parseN x) = .tuple #[.int .u8 k, .int .i64 n, .bool b] ∧ needOf ids id log x = (decide (x = curN) || (b && ((decide (k = 109) && decide (n = id)) || ((decide (k = 108) && decide (log ≤ n)) || (decide (k = 116) && decide (n ∈ ids)))))) := by
  unfold needOf
  cases h : parseN x with
  | none => exact ⟨0, 0, false, rfl, by simp⟩
  | some q => exact ⟨q.1, q.2, true, rfl, by simp⟩
theorem stay_need (ts : List Me) (id log : Int) (x : List Int) : stayB (needL (ts.map (·.id)) id) log x = !(needOf (ts.map (·.id)) id log x) := by
  unfold stayB nedB
  rw [need_eq]

set_option maxHeartbeats 8000000 in
set_option maxRecDepth 100000 in
theorem needs_walk (s : St) (v : Value) (ts : List Me) (seq next id log : Int) (va : Option Addr) (vn vc : Nat) (w : World) (hv : StW w v s) (hm : MetsR w (.slice va vn vc) ts) (h1 : s.files.length * 40 ≤ 140737488351232) (h2 : s.names.length * 24 ≤ 140737488351232) (h3 : s.safe.length * 24 ≤ 140737488351232) (htl : ts.length ≤ 4000000000000) (he : EnvL w) :
    Calls Tryd.prog 4 #[v, .agg #[.slice va vn vc, .int .i64 seq, .int .i64 next], .int .i64 id, .int .i64 log] w fun e w' => e = .returned (.bool true) ∧ Hid (Below w.heap.size w w') := by
  have hln := list_names hv
  obtain ⟨af, nf, cf, an, nn, cn, as', ns, cs', ev⟩ := hv.shape
  subst ev
  have HS : Hid (StW w (.agg #[.int .i64 s.cap, .slice af nf cf, .slice an nn cn, .slice as' ns cs', .int .i64 s.next]) s) := hv
  have HM : Hid (MetsR w (.slice va vn vc) ts) := hm
  have HE : Hid (EnvL w) := he
  have HSz : Hid (s.files.length * 40 ≤ 140737488351232 ∧ s.names.length * 24 ≤ 140737488351232 ∧ s.safe.length * 24 ≤ 140737488351232) := ⟨h1, h2, h3⟩
  obtain ⟨w2, hw2⟩ : ∃ w2, w2 = (w.alloc (.cells #[.int .i64 s.cap, .slice af nf cf, .slice an nn cn, .slice as' ns cs', .int .i64 s.next] 35)).alloc (.cells #[.slice va vn vc, .int .i64 seq, .int .i64 next] 38) := ⟨_, rfl⟩
  have U2 : Hid (Below w.heap.size w w2) := by rw [hw2]; exact up_al (up_alloc _ _) _
  have B1 : Hid (w2.heap[w.heap.size]? = some (.cells #[.int .i64 s.cap, .slice af nf cf, .slice an nn cn, .slice as' ns cs', .int .i64 s.next] 35)) := by rw [hw2]; exact blk_up (blk_new _ _) (up_alloc _ _)
  have B2 : Hid (w2.heap[w.heap.size + 1]? = some (.cells #[.slice va vn vc, .int .i64 seq, .int .i64 next] 38)) := by rw [hw2, ← size_al w (.cells #[.int .i64 s.cap, .slice af nf cf, .slice an nn cn, .slice as' ns cs', .int .i64 s.next] 35)]; exact blk_new _ _
  have HW : Hid ((w.alloc (.cells #[.int .i64 s.cap, .slice af nf cf, .slice an nn cn, .slice as' ns cs', .int .i64 s.next] 35)).alloc (.cells #[.slice va vn vc, .int .i64 seq, .int .i64 next] 38) = w2) := hid hw2.symm
  have HA : Hid (∀ W, Below w.heap.size w W → Calls Tryd.prog 10 #[] W fun e w' => e = .returned (.bool true) ∧ Below W.heap.size W w') := fun W hW => alive_any W (HE.out.up hW)
  clear hv hm he hw2 h1 h2 h3
  go_enter Tryd.func4, Tryd.ntmps4
  go_upto_region 1 with fail
  rw [HW.out]
  go_wp2_with fail
  refine (HA.out w2 U2.out).mono ?_
  rintro e w3 ⟨rfl, hb3⟩
  have U3 : Hid (Below w.heap.size w w3) := up_trans U2.out hb3
  have x0 := blk_cell (blk_up B1.out hb3) 0 _ rfl
  have x1 := blk_cell (blk_up B1.out hb3) 1 _ rfl
  have x2 := blk_cell (blk_up B1.out hb3) 2 _ rfl
  have x3 := blk_cell (blk_up B1.out hb3) 3 _ rfl
  have x4 := blk_cell (blk_up B1.out hb3) 4 _ rfl
  have B23 : Hid (w3.heap[w.heap.size + 1]? = some (.cells #[.slice va vn vc, .int .i64 seq, .int .i64 next] 38)) := blk_up B2.out hb3
  have HOf := hid (of_any s _ w3 (HS.out.up U3.out) HSz.out.1 HSz.out.2.1 HSz.out.2.2)
  clear hb3 HA B1 B2 U2 HW
  go_wp2_with fail
  refine HOf.out.mono ?_
  rintro e w4 ⟨v4, rfl, ho4, hb4⟩
  have U4 : Hid (Below w.heap.size w w4) := up_trans U3.out hb4
  obtain ⟨bf, mf, df, bn, mn, dn, bs, ms, ds, ev⟩ := (StW.own ho4).shape
  subst ev
  have HS4 : Hid (StW w4 (.agg #[.int .i64 s.cap, .slice bf mf df, .slice bn mn dn, .slice bs ms ds, .int .i64 s.next]) s) := StW.own ho4
  have B24 : Hid (w4.heap[w.heap.size + 1]? = some (.cells #[.slice va vn vc, .int .i64 seq, .int .i64 next] 38)) := blk_up B23.out hb4
  obtain ⟨w5, hw5⟩ : ∃ w5, w5 = w4.alloc (.cells #[.int .i64 s.cap, .slice bf mf df, .slice bn mn dn, .slice bs ms ds, .int .i64 s.next] 42) := ⟨_, rfl⟩
  have HW5 : Hid (w4.alloc (.cells #[.int .i64 s.cap, .slice bf mf df, .slice bn mn dn, .slice bs ms ds, .int .i64 s.next] 42) = w5) := hid hw5.symm
  have B9 : Hid (w5.heap[w4.heap.size]? = some (.cells #[.int .i64 s.cap, .slice bf mf df, .slice bn mn dn, .slice bs ms ds, .int .i64 s.next] 42)) := by rw [hw5]; exact blk_new _ _
  have V5 : Hid (Below w4.heap.size w4 w5) := by rw [hw5]; exact up_alloc _ _
  have U5 : Hid (Below w.heap.size w w5) := up_trans U4.out V5.out
  have B25 : Hid (w5.heap[w.heap.size + 1]? = some (.cells #[.slice va vn vc, .int .i64 seq, .int .i64 next] 38)) := blk_up B24.out V5.out
  clear hw5 ho4 hb4 HOf x0 x1 x2 x3 x4 B23 B24
  go_upto_region 4 with fail
  rw [HW5.out]
  have HCE : Hid (∀ W, Below w5.heap.size w5 W → W.cell? ⟨w4.heap.size, 0, none⟩ = some (.int .i64 s.cap) ∧ W.cell? ⟨w4.heap.size, 1, none⟩ = some (.slice bf mf df) ∧ W.cell? ⟨w4.heap.size, 2, none⟩ = some (.slice bn mn dn) ∧ W.cell? ⟨w4.heap.size, 3, none⟩ = some (.slice bs ms ds) ∧ W.cell? ⟨w4.heap.size, 4, none⟩ = some (.int .i64 s.next) ∧ W.cell? ⟨w.heap.size + 1, 0, none⟩ = some (.slice va vn vc) ∧ W.cell? ⟨w.heap.size + 1, 1, none⟩ = some (.int .i64 seq) ∧ W.cell? ⟨w.heap.size + 1, 2, none⟩ = some (.int .i64 next)) := fun W h => ⟨blk_cell (blk_up B9.out h) 0 _ rfl, blk_cell (blk_up B9.out h) 1 _ rfl, blk_cell (blk_up B9.out h) 2 _ rfl, blk_cell (blk_up B9.out h) 3 _ rfl, blk_cell (blk_up B9.out h) 4 _ rfl, blk_cell (blk_up B25.out h) 0 _ rfl, blk_cell (blk_up B25.out h) 1 _ rfl, blk_cell (blk_up B25.out h) 2 _ rfl⟩
  have C13 : Hid (∀ W, Below w5.heap.size w5 W → Calls Tryd.prog 13 #[.agg #[.slice va vn vc, .int .i64 seq, .int .i64 next]] W fun e w' => ∃ a n c, e = .returned (.agg #[.slice a n c, .int .i64 seq, .int .i64 next]) ∧ Hid (MetsR w' (.slice a n c) ts) ∧ Hid (Below w5.heap.size w5 w')) := by
    intro W u
    refine (of_anyE ts seq next va vn vc W (HM.out.up (up_trans U5.out u)) htl).mono ?_
    rintro e w' ⟨a, n, c, rfl, hO, hb⟩
    exact ⟨a, n, c, rfl, Rws.own hO.out, up_trans u hb.out⟩
  have C12 : Hid (∀ a n c W, Below w5.heap.size w5 W → MetsR W (.slice a n c) ts → Calls Tryd.prog 12 #[.agg #[.int .i64 s.cap, .slice bf mf df, .slice bn mn dn, .slice bs ms ds, .int .i64 s.next], .agg #[.slice a n c, .int .i64 seq, .int .i64 next], .int .i64 id, .int .i64 log] W fun e w' => ∃ a' c', e = .returned (.tuple #[.slice a' (orphP s ts id log).1.length c', .int .i64 (orphP s ts id log).2]) ∧ Hid (Rws 1 w' (.slice a' (orphP s ts id log).1.length c') ((orphP s ts id log).1.map srow)) ∧ Hid (Below w5.heap.size w5 w')) := by
    intro a n c W u hM
    refine (orphans_any s _ ts seq next id log a n c W (HS4.out.up (up_trans V5.out u)) hM (by have := HSz.out; omega) htl (HE.out.up (up_trans U5.out u))).mono ?_
    rintro e w' ⟨v', rfl, hO, hb⟩
    obtain ⟨a', c', hav, -, -⟩ := (Rws.own hO.out).len
    rw [List.length_map] at hav
    subst hav
    exact ⟨a', c', rfl, Rws.own hO.out, up_trans u hb.out⟩
  obtain ⟨y0, y1, y2, y3, y4, z0, z1, z2⟩ := HCE.out w5 (Below.refl _ _)
  go_cut [10, 11] from 22 (fun vA vB wx => ∃ a' c', vA = .slice a' (orphP s ts id log).1.length c' ∧ vB = .int .i64 (orphP s ts id log).2 ∧ Hid (Rws 1 wx (.slice a' (orphP s ts id log).1.length c') ((orphP s ts id log).1.map srow)) ∧ Hid (Below w5.heap.size w5 wx))
  case first =>
    go_region_held3 (fun w' => w'.cell? ⟨w4.heap.size, 0, none⟩ = some (.int .i64 s.cap) ∧ w'.cell? ⟨w4.heap.size, 1, none⟩ = some (.slice bf mf df) ∧ w'.cell? ⟨w4.heap.size, 2, none⟩ = some (.slice bn mn dn) ∧ w'.cell? ⟨w4.heap.size, 3, none⟩ = some (.slice bs ms ds) ∧ w'.cell? ⟨w4.heap.size, 4, none⟩ = some (.int .i64 s.next) ∧ w'.cell? ⟨w.heap.size + 1, 0, none⟩ = some (.slice va vn vc) ∧ w'.cell? ⟨w.heap.size + 1, 1, none⟩ = some (.int .i64 seq) ∧ w'.cell? ⟨w.heap.size + 1, 2, none⟩ = some (.int .i64 next)) (first | with_reducible exact ⟨y0, y1, y2, y3, y4, z0, z1, z2⟩ | (with_reducible refine HCE.out _ ?_; first | with_reducible exact Below.refl _ _ | with_reducible exact up_dr (Below.refl _ _) | with_reducible exact u6.out | with_reducible exact u5.out)) (first
      | (go_at_call 13; with_reducible refine (C13.out _ (up_dr (Below.refl _ _))).mono ?_; rintro e w5a ⟨a5, n5, c5, rfl, M5, u5⟩)
      | (go_at_call 12; with_reducible refine (C12.out _ _ _ _ u5.out M5.out).mono ?_; rintro e w6 ⟨a6, c6, rfl, R6, u6⟩))
    go_wp2_with fail
    go_meet
    case rel => exact ⟨a6, c6, rfl, rfl, R6, u6⟩
  case rest =>
  obtain ⟨a6, c6, rfl, rfl, R6, u6⟩ := hcut
  clear C12 C13 HCE y0 y1 y2 y3 y4 z0 z1 z2
  have W6 : Hid (Below w.heap.size w wc) := up_trans U5.out u6.out
  have B96 : Hid (wc.heap[w4.heap.size]? = some (.cells #[.int .i64 s.cap, .slice bf mf df, .slice bn mn dn, .slice bs ms ds, .int .i64 s.next] 42)) := blk_up B9.out u6.out
  have B26 : Hid (wc.heap[w.heap.size + 1]? = some (.cells #[.slice va vn vc, .int .i64 seq, .int .i64 next] 38)) := blk_up B25.out u6.out
  have HLst := hid (list_any s _ wc (HS4.out.up (up_trans V5.out u6.out)) (by have := HSz.out; omega))
  have x0 := blk_cell B96.out 0 _ rfl
  have x1 := blk_cell B96.out 1 _ rfl
  have x2 := blk_cell B96.out 2 _ rfl
  have x3 := blk_cell B96.out 3 _ rfl
  have x4 := blk_cell B96.out 4 _ rfl
  have HPd : Hid (orphP s ts id log = if checkP s then ((s.names.map (·.1)).filter (stayB (needL (ts.map (·.id)) id) log), 0) else ([], 9)) := rfl
  have HLd : Hid (listP s = if checkP s then (s.names.map (·.1), 0) else ([], 9)) := rfl
  clear B9 B25 U5 V5 U4 U3 HW5 HS4
  cases hchk : checkP s with
  | false =>
    rw [hchk] at HPd HLd
    simp only [Bool.false_eq_true, if_false] at HPd HLd
    rw [HLd.out] at HLst
    rw [HPd.out]
    clear HPd HLd hchk R6
    go_wp2_with fail
    refine HLst.out.mono ?_
    rintro e w7 ⟨v7, rfl, o7, hb7⟩
    have W7 : Hid (Below w.heap.size w w7) := up_trans W6.out hb7
    obtain ⟨a7, c7, ev, -, -⟩ := (Rws.own o7).len
    subst ev
    clear o7 hb7 HLst x0 x1 x2 x3 x4 B96 B26
    go_wp2_with fail
    refine (num_any _ _).mono ?_
    rintro e w8 ⟨rfl, rfl⟩
    go_wp2_with fail
    refine (num_any _ _).mono ?_
    rintro e w9 ⟨rfl, rfl⟩
    go_wp2_with fail
    refine (num_any _ _).mono ?_
    rintro e w10 ⟨rfl, rfl⟩
    go_wp2_with fail
    go_ret
    exact ⟨rfl, W7⟩
  | true =>
    rw [hchk] at HPd HLd
    simp only [if_true] at HPd HLd
    have HLen : Hid ((s.names.map (·.1)).length ≤ 4398046511104) := by
      have := (check_sound hchk).1.1
      have h2 := names_len (check_parts hchk).2.2.1
      rw [List.length_map]
      unfold Hid
      omega
    rw [HLd.out] at HLst
    rw [HPd.out] at R6 ⊢
    simp only at R6 HLst ⊢
    have HNm := hid hln
    clear HPd HLd hchk hln
    obtain ⟨all, hall⟩ : ∃ all, all = s.names.map (·.1) := ⟨_, rfl⟩
    rw [← hall] at R6 HLst HLen HNm ⊢
    have HST : Hid (∀ x, stayB (needL (ts.map (·.id)) id) log x = !(needOf (ts.map (·.id)) id log x)) := fun x => stay_need ts id log x
    obtain ⟨p, hp⟩ : ∃ p, p = stayB (needL (ts.map (·.id)) id) log := ⟨_, rfl⟩
    rw [← hp] at R6 HST ⊢
    clear hall hp
    obtain ⟨l, hl⟩ : ∃ l, l = all.filter p := ⟨_, rfl⟩
    rw [← hl] at R6 ⊢
    have HLl : Hid (l = all.filter p) := hl
    clear hl
    go_wp2_with fail
    refine HLst.out.mono ?_
    rintro e w7 ⟨v7, rfl, o7, hb7⟩
    have W7 : Hid (Below w.heap.size w w7) := up_trans W6.out hb7
    obtain ⟨a7, c7, ev, -, -⟩ := (Rws.own o7).len
    rw [List.length_map] at ev
    subst ev
    have R7 : Hid (Rws 1 w7 (.slice a7 all.length c7) (all.map srow)) := Rws.own o7
    have R67 : Hid (Rws 1 w7 (.slice a6 l.length c6) (l.map srow)) := R6.out.up hb7
    have B27 : Hid (w7.heap[w.heap.size + 1]? = some (.cells #[.slice va vn vc, .int .i64 seq, .int .i64 next] 38)) := blk_up B26.out hb7
    clear o7 hb7 HLst x0 x1 x2 x3 x4 B96 B26 R6
    have HMW : Hid (MetsR w7 (.slice va vn vc) ts) := HM.out.up W7.out
    go_wp2_with fail
    refine (num_any _ _).mono ?_
    rintro e w8 ⟨rfl, hw8⟩
    have hw8 := hw8.symm
    subst hw8
    go_wp2_with fail
    refine (num_any _ _).mono ?_
    rintro e w9 ⟨rfl, hw9⟩
    have hw9 := hw9.symm
    subst hw9
    go_wp2_with fail
    have HLm : Hid (l.length ≤ all.length) := by unfold Hid; rw [HLl.out]; exact List.length_filter_le _ _
    have HEnd : Hid (cntO all p all.length = l.length) := by unfold Hid; rw [HLl.out]; exact cntO_all all p
    have HCurC : Hid (∀ x, (∀ y ∈ x, 0 ≤ y ∧ y ≤ 255) → ((strOfNums x).toList == ([67, 85, 82, 82, 69, 78, 84] : List UInt8)) = decide (x = curN)) := by
      intro x hx
      rw [show ([67, 85, 82, 82, 69, 78, 84] : List UInt8) = (strOfNums curN).toList from by rw [str_list]; rfl]
      exact str_eq x curN hx (by unfold curN; intro y hy; simp at hy; omega)
    clear HM HE HS HSz W6
    go_loopw [14, 15] (fun sk si wr => ∃ i : Nat, i ≤ all.length ∧ sk = .int .i64 (cntO all p i : Nat) ∧ si = .int .i64 i ∧ Hid (Below w7.heap.size w7 wr)) (fun _ i _ => all.length - (intOf i).toNat)
    case atStart => exact ⟨0, Nat.zero_le _, rfl, rfl, Below.refl _ _⟩
    case round =>
      obtain ⟨i, hi, rfl, rfl, up⟩ := hrel
      by_cases hlt : i < all.length
      · have hlt' : (i : Int) < (all.length : Int) := by omega
        have HAt := hid (cntO_at all p i hlt)
        have HSu := hid (cntO_succ all p i hlt)
        have hmem : all.getD i [] ∈ all := by
          rw [List.getD_eq_getElem?_getD, List.getElem?_eq_getElem hlt]
          exact List.getElem_mem _
        have HX := hid (HNm.out _ hmem)
        obtain ⟨b, off, cap', e, c0⟩ := srow_at (R7.out.up up.out) i hlt
        simp at e
        obtain ⟨rfl, rfl⟩ := e
        have hcu := HCurC.out _ HX.out.1
        have HSTx := HST.out (all.getD i [])
        obtain ⟨pk, pn, pb, hpr, hnd⟩ := parR_need (ts.map (·.id)) id log (all.getD i [])
        have HPar : Hid (∀ W, Calls Tryd.prog 8 #[.string (strOfNums (all.getD i []))] W fun e w'' => e = .returned (.tuple #[.int .u8 pk, .int .i64 pn, .bool pb]) ∧ Below W.heap.size W w'') := by
          intro W
          have := refParse_any (all.getD i []) HX.out.1 HX.out.2 W
          rw [hpr] at this
          exact this
        have HND := hid hnd
        have HSX := hid HSTx
        have HLl2 := hid HLl.out
        rw [← HLl.out] at HAt
        clear hpr hnd HSTx
        generalize hx : all.getD i [] = x at *
        have HCnb : Hid (cntO all p i ≤ i) := by unfold Hid cntO; exact filter_len_take p all i (by omega)
        generalize hcc : cntO all p i = kk at *
        clear hcc
        have HXi : Hid (all.getD i [] = x) := hx
        clear hx
        obtain ⟨c, hc⟩ : ∃ c : Bool, c = decide (x = curN) := ⟨_, rfl⟩
        rw [← hc] at hcu HND
        clear hc
        go_wp2_with fail
        refine (HPar.out _).mono ?_
        rintro e w9 ⟨rfl, hb9⟩
        have up9 : Hid (Below w7.heap.size w7 w9) := up_trans up.out hb9
        clear HPar hb9 c0
        go_upto_region 14 with fail
        clear HCurC
        go_cut [16, 17, 18, 19] from 58 to 145 (fun sA sB sC sD wy => sA = .bool (c || (pb && ((decide (pk = 109) && decide (pn = id)) || (decide (pk = 108) && decide (log ≤ pn))))) ∧ sB = .int .u8 pk ∧ sC = .int .i64 pn ∧ sD = .bool pb ∧ wy = w9)
        case first =>
          cases c <;> cases pb
          all_goals
            go_wp2_with fail
            all_goals
              refine Met.intro ?_
              go_step
              (repeat apply Exists.intro)
              refine ⟨?_, rfl⟩
              exact ⟨by simp [*], by simp [*], by simp [*], by simp [*], rfl⟩
        case rest =>
        obtain ⟨rfl, rfl, rfl, rfl, hcw⟩ := hcut
        rw [hcw]
        clear hcw
        have HND2 : Hid (needOf (ts.map (·.id)) id log x = ((c || (pb && ((decide (pk = 109) && decide (pn = id)) || (decide (pk = 108) && decide (log ≤ pn))))) || (pb && (decide (pk = 116) && decide (pn ∈ ts.map (·.id)))))) := by
          unfold Hid
          rw [HND.out]
          cases c <;> cases pb <;> simp [Bool.or_assoc]
        obtain ⟨nd1, hn1⟩ : ∃ nd1 : Bool, nd1 = (c || (pb && ((decide (pk = 109) && decide (pn = id)) || (decide (pk = 108) && decide (log ≤ pn))))) := ⟨_, rfl⟩
        rw [← hn1] at HND2 ⊢
        clear hn1 HND
        have HTI : Hid (∀ j : Nat, j ≤ ts.length → ((ts.map (·.id)).take j) = ((ts.map (·.id)).take j)) := fun _ _ => rfl
        obtain ⟨ids, hids⟩ : ∃ ids, ids = ts.map (·.id) := ⟨_, rfl⟩
        rw [← hids] at HND2 HSX
        have HIdl : Hid (ids.length = ts.length) := by rw [hids]; exact List.length_map ..
        have HIdAt : Hid (∀ (j : Nat) (m : Me), ts[j]? = some m → ids.take (j + 1) = ids.take j ++ [m.id]) := by
          intro j m hm
          rw [hids, List.take_add_one, List.getElem?_map, hm]
          rfl
        clear HTI hids
        have z0 := blk_cell (blk_up B27.out up9.out) 0 _ rfl
        have HV9 : Hid (MetsR w9 (.slice va vn vc) ts) := HMW.out.up up9.out
        obtain ⟨a0, cap0, ev, -, -⟩ := HV9.out.len
        injection ev with e1 e2 e3
        subst e2
        clear e1 e3
        go_wp2_with fail
        go_loopw [16, 20] (fun sn sj wy => ∃ j : Nat, j ≤ ts.length ∧ sn = .bool (nd1 || (pb && (decide (pk = 116) && decide (pn ∈ ids.take j)))) ∧ sj = .int .i64 j ∧ wy = w9) (fun _ j _ => ts.length - (intOf j).toNat)
        case atStart => exact ⟨0, Nat.zero_le _, by simp, rfl, rfl⟩
        case round =>
          obtain ⟨j, hj, rfl, rfl, hwy⟩ := hrel
          rw [hwy]
          clear hwy
          obtain ⟨q, hq⟩ : ∃ q : Bool, q = (nd1 || (pb && (decide (pk = 116) && decide (pn ∈ ids.take j)))) := ⟨_, rfl⟩
          rw [← hq]
          have HQ := hid hq
          clear hq
          go_upto_region 16 with fail
          go_cut [17, 18, 19, 111] from 100 to 124 (fun sB sC sD sT wy => sB = .int .u8 pk ∧ sC = .int .i64 pn ∧ sD = .bool pb ∧ sT = .bool (pb && (decide (pk = 116) && decide (j < ts.length))) ∧ wy = w9)
          case first =>
            cases pb with
            | false =>
              go_wp2_with fail
              go_meet
              case rel => exact ⟨rfl, rfl, rfl, rfl, rfl⟩
            | true =>
              cases hk : decide (pk = 116) with
              | false =>
                have hk2 : (pk == 116) = false := by simpa using hk
                go_wp2_with fail
                go_meet
                case rel => exact ⟨rfl, rfl, rfl, by rw [hk]; rfl, rfl⟩
              | true =>
                have hk2 : (pk == 116) = true := by simpa using hk
                by_cases hjl : j < ts.length
                · have hjl' : (j : Int) < (ts.length : Int) := by omega
                  go_wp2_with fail
                  go_meet
                  case rel => exact ⟨rfl, rfl, rfl, by rw [hk]; simp [hjl], rfl⟩
                · have hjl' : ¬ (j : Int) < (ts.length : Int) := by omega
                  go_wp2_with fail
                  go_meet
                  case rel => exact ⟨rfl, rfl, rfl, by rw [hk]; simp [hjl], rfl⟩
          case rest =>
          obtain ⟨rfl, rfl, rfl, rfl, hcw⟩ := hcut
          rw [hcw]
          clear hcw
          obtain ⟨tt, htt⟩ : ∃ tt : Bool, tt = (pb && (decide (pk = 116) && decide (j < ts.length))) := ⟨_, rfl⟩
          rw [← htt]
          cases tt with
          | true =>
            have hT := htt.symm
            simp only [Bool.and_eq_true, decide_eq_true_eq] at hT
            obtain ⟨b2, off2, cap2, y, e, hy, d0, d1, d2, d3, d4⟩ := HV9.out.at j hT.2.2
            simp at e
            obtain ⟨rfl, rfl⟩ := e
            have hjl' : (j : Int) < (ts.length : Int) := by omega
            have HJ : Hid (j < ts.length) := hT.2.2
            have HQ2 : Hid ((nd1 || (pb && (decide (pk = 116) && decide (pn ∈ ids.take (j + 1))))) = (q || decide (y.id = pn))) := by
              unfold Hid
              rw [HIdAt.out j y hy, HQ.out, hT.1, hT.2.1]
              by_cases h5 : y.id = pn
              · simp [h5]
              · have : ¬ pn = y.id := fun h => h5 h.symm
                simp [h5, this]
            clear hy d1 d2 d3 d4 htt hT
            cases q with
            | true =>
              go_wp2_with fail
              exact ⟨⟨j + 1, by have := HJ.out; omega, by rw [HQ2.out]; rfl, by go_num, (by first | rfl | trivial)⟩, by have := HJ.out; simp [intOf]; omega⟩
            | false =>
              cases h5 : (y.id == pn) with
              | true =>
                have HQ3 : Hid ((nd1 || (pb && (decide (pk = 116) && decide (pn ∈ ids.take (j + 1))))) = true) := by unfold Hid; rw [HQ2.out]; simpa using h5
                go_wp2_with fail
                exact ⟨⟨j + 1, by have := HJ.out; omega, by rw [HQ3.out], by go_num, (by first | rfl | trivial)⟩, by have := HJ.out; simp [intOf]; omega⟩
              | false =>
                have HQ3 : Hid ((nd1 || (pb && (decide (pk = 116) && decide (pn ∈ ids.take (j + 1))))) = false) := by unfold Hid; rw [HQ2.out]; simpa using h5
                go_wp2_with fail
                exact ⟨⟨j + 1, by have := HJ.out; omega, by rw [HQ3.out], by go_num, (by first | rfl | trivial)⟩, by have := HJ.out; simp [intOf]; omega⟩
          | false =>
            have HPx : Hid (q = !(p x)) := by
              unfold Hid
              rw [HSX.out, HND2.out, Bool.not_not, HQ.out]
              cases pb with
              | false => rfl
              | true =>
                cases hk : decide (pk = 116) with
                | false => rfl
                | true =>
                  rw [hk] at htt
                  have hjn : j = ts.length := by
                    have := htt.symm
                    simp at this
                    omega
                  rw [hjn, ← HIdl.out, List.take_length]
            clear htt HQ HND2 HIdAt HIdl HV9 z0 HSX
            go_upto_region 19 with fail
            have HXOct : Hid (∀ y, y < l.length → ∀ z ∈ l.getD y [], 0 ≤ z ∧ z ≤ 255) := by
              intro y hy
              have hm : l.getD y [] ∈ l := by
                rw [List.getD_eq_getElem?_getD, List.getElem?_eq_getElem hy]
                exact List.getElem_mem _
              have hsub : ∀ z ∈ l, z ∈ all := by
                rw [HLl2.out]
                intro z hz
                exact (List.mem_filter.1 hz).1
              exact (HNm.out _ (hsub _ hm)).1
            have HR7 := hid (R7.out.up up9.out)
            have HR67 := hid (R67.out.up up9.out)
            obtain ⟨b7, o7, d7, e7, c7x⟩ := srow_at HR7.out i hlt
            simp only [Value.slice.injEq, Option.some.injEq, Addr.mk.injEq] at e7
            obtain ⟨⟨rfl, rfl, -⟩, -, rfl⟩ := e7
            rw [HXi.out] at c7x
            go_cut [14, 15, 16, 21] from 58 to 145 (fun sK sI sN sA wy => sK = .int .i64 (kk : Nat) ∧ sI = .int .i64 (i : Nat) ∧ sN = .bool q ∧ sA = .bool (p x) ∧ Hid (Below w9.heap.size w9 wy))
            case first =>
              by_cases hkl : kk < l.length
              · have hkl' : (kk : Int) < (l.length : Int) := by omega
                obtain ⟨b8, o8, d8, e8, c8x⟩ := srow_at HR67.out kk hkl
                simp only [Value.slice.injEq, Option.some.injEq] at e8
                obtain ⟨rfl, -, rfl⟩ := e8
                have heq := str_eq (l.getD kk []) x (HXOct.out kk hkl) HX.out.1
                have HV := hid HAt.out
                by_cases hxx : l.getD kk [] = x
                · have hpx : p x = true := HV.out.2 ⟨hkl, hxx⟩
                  rw [decide_eq_true hxx] at heq
                  have HPX := hid hpx
                  clear HV hpx hxx HAt HSu HXOct HLl2 HPx
                  generalize l.getD kk [] = zz at *
                  go_quiet (fail)
                  go_wp2_with fail
                  go_meet
                  case rel => exact ⟨rfl, rfl, rfl, by rw [HPX.out], up_drewN _ _⟩
                · have hpx : p x = false := by
                    cases h : p x with
                    | false => rfl
                    | true => exact absurd (HV.out.1 h).2 hxx
                  rw [decide_eq_false hxx] at heq
                  have HPX := hid hpx
                  clear HV hpx hxx HAt HSu HXOct HLl2 HPx
                  generalize l.getD kk [] = zz at *
                  go_quiet (fail)
                  go_wp2_with fail
                  go_meet
                  case rel => exact ⟨rfl, rfl, rfl, by rw [HPX.out], up_drewN _ _⟩
              · have hkl' : ¬ (kk : Int) < (l.length : Int) := by omega
                have hpx : p x = false := by
                  cases h : p x with
                  | false => rfl
                  | true => exact absurd (HAt.out.1 h).1 hkl
                have HPX := hid hpx
                clear hpx HAt HSu HXOct HLl2 HPx
                go_quiet (fail)
                go_wp2_with fail
                go_meet
                case rel => exact ⟨rfl, rfl, rfl, by rw [HPX.out], up_drewN _ _⟩
            case rest =>
            obtain ⟨rfl, rfl, rfl, rfl, hcw⟩ := hcut
            have up10 := hid (up_trans up9.out hcw)
            clear hcw
            have HPx2 := hid HPx.out
            clear HPx c7x HXOct HAt
            have HCn : Hid (cntO all p (i + 1) = kk + (if p x = true then 1 else 0)) := HSu.out
            clear HSu
            have hal : all.length ≤ 4398046511104 := HLen.out
            have hkb : kk ≤ i := HCnb.out
            clear HCnb
            cases hp : p x with
            | true =>
              rw [hp] at HPx2 HCn
              have hq : q = false := HPx2.out
              subst hq
              have HC2 : Hid (cntO all p (i + 1) = kk + 1) := HCn.out
              clear HCn HPx2 hp
              go_wp2_with fail
              exact ⟨⟨i + 1, by omega, by rw [HC2.out]; go_num, by go_num, up10⟩, by simp [intOf]; omega⟩
            | false =>
              rw [hp] at HPx2 HCn
              have hq : q = true := HPx2.out
              subst hq
              have HC2 : Hid (cntO all p (i + 1) = kk) := HCn.out
              clear HCn HPx2 hp
              go_wp2_with fail
              exact ⟨⟨i + 1, by omega, by rw [HC2.out], by go_num, up10⟩, by simp [intOf]; omega⟩
      · have hlt' : ¬ (i : Int) < (all.length : Int) := by omega
        obtain rfl : i = all.length := by omega
        rw [HEnd.out]
        clear HCurC HLl
        go_wp2_with fail
        go_ret
        exact ⟨rfl, up_trans W7.out up.out⟩
end Go.Proofs.YtnchjlimkgbfpaaDoor
