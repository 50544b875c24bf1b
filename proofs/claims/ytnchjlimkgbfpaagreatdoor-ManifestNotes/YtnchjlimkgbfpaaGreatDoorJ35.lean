/- The texts OOct, OState, OLaid, in this order. -/
import Derived.Test.YtnchjlimkgbfpaaGreatDoorJ31
import Derived.Test.YtnchjlimkgbfpaaGreatDoorNEnc
import Derived.Test.YtnchjlimkgbfpaaGreatDoorJ26
import Derived.Test.YtnchjlimkgbfpaaGreatDoorJ15
import Derived.Test.YtnchjlimkgbfpaaGreatDoorJ17
import Derived.Deep.RegionHeld3
import Derived.Deep.Cut

namespace Go.Proofs.YtnchjlimkgbfpaaGreatDoor
open Go.RowKit
set_option linter.unusedVariables false
set_option linter.unusedSimpArgs false
set_option maxRecDepth 20000
theorem oct6 {n : Int} (h0 : 0 ≤ n) (h1 : n ≤ 1099511627776) : (octets n).length ≤ 6 := by
  have := (octets_form n h0 (by omega)).size
  rcases size_cases n h0 (by omega) with q | q | q | q | q | q | q | q | q <;> omega
theorem metO_e {m : Me} (h : metE m = true) : (metO m).length ≤ 212 := by
  have q := metE_iff.1 h
  unfold metO txtE
  simp only [List.length_append]
  have a1 := oct6 (n := m.id) (by omega) (by omega)
  have a2 := oct6 (n := m.lvl) (by omega) (by omega)
  have a3 := oct6 (n := m.cnt) (by omega) (by omega)
  have a4 := oct1 (n := (m.low.size : Int)) (by omega) (by omega)
  have a5 := oct1 (n := (m.high.size : Int)) (by omega) (by omega)
  have a6 : (nums m.low).length = m.low.size := nums_length _
  have a7 : (nums m.high).length = m.high.size := nums_length _
  omega
theorem metsO_e : ∀ l : List Me, (∀ m ∈ l, metE m = true) → (metsO l).length ≤ 212 * l.length
  | [], _ => by simp [metsO]
  | x :: t, h => by
    have h1 := metsO_e t (fun m hm => h m (List.mem_cons_of_mem _ hm))
    have h2 := metO_e (h x List.mem_cons_self)
    simp only [metsO, List.length_append, List.length_cons]
    omega
theorem idsO_e : ∀ l : List Int, (∀ i ∈ l, numE i = true) → (idsO l).length ≤ 6 * l.length
  | [], _ => by simp [idsO]
  | x :: t, h => by
    have h1 := idsO_e t (fun m hm => h m (List.mem_cons_of_mem _ hm))
    have h2 := numE_iff.1 (h x List.mem_cons_self)
    have h3 := oct6 (n := x) (by omega) (by omega)
    simp only [idsO, List.length_append, List.length_cons]
    omega
theorem edO_len {sq nx : Int} {dr : List Int} {ad : List Me} (h : (encE sq nx dr ad).2 = 0) : (edO sq nx dr ad).length ≤ 60000 := by
  obtain ⟨h1, h2, h3, h4, h5, h6⟩ := encE_zero.1 h
  have h3 := numE_iff.1 h3
  have h4 := numE_iff.1 h4
  unfold edO
  simp only [List.length_append]
  have a1 := oct9 (n := sq) (by omega) (by omega)
  have a2 := oct9 (n := nx) (by omega) (by omega)
  have a3 := oct9 (n := (dr.length : Int)) (by omega) (by omega)
  have a4 := oct9 (n := (ad.length : Int)) (by omega) (by omega)
  have a5 := idsO_e dr h5
  have a6 := metsO_e ad h6
  omega
def edP (sq nx : Int) (dr : List Int) (ad : List Me) : List Int × Int := if (encE sq nx dr ad).2 = 0 then (edF sq nx dr ad, 0) else ([], (encE sq nx dr ad).2)
theorem edP_oct (sq nx : Int) (dr : List Int) (ad : List Me) : ∀ x ∈ (edP sq nx dr ad).1, 0 ≤ x ∧ x ≤ 255 := by
  unfold edP
  by_cases h : (encE sq nx dr ad).2 = 0
  · rw [if_pos h]
    exact frame_octet 5 _ (by omega) (by have := edO_len h; omega) (edO_octet h)
  · rw [if_neg h]
    intro x hx
    cases hx
set_option maxHeartbeats 1000000 in
theorem edOct_any (seq next : Int) (drop : List Int) (adds : List Me) (da aa : Option Addr) (dn dc an ac : Nat) (w : World) (hd : IntsR w (.slice da dn dc) drop) (ha : MetsR w (.slice aa an ac) adds) :
    Calls Tryz.prog 36 #[.agg #[.slice da dn dc, .slice aa an ac, .int .i64 seq, .int .i64 next]] w fun e w' => ∃ a n c, e = .returned (.tuple #[.slice a n c, .int .i64 (edP seq next drop adds).2]) ∧ Hid (OwnB w' w.heap.size (.slice a n c) (edP seq next drop adds).1) ∧ Hid (Below w.heap.size w w') := by
  obtain ⟨w1, hw1⟩ : ∃ w1, w1 = w.alloc (.cells #[.slice da dn dc, .slice aa an ac, .int .i64 seq, .int .i64 next] 42) := ⟨_, rfl⟩
  have HW1 : Hid (w.alloc (.cells #[.slice da dn dc, .slice aa an ac, .int .i64 seq, .int .i64 next] 42) = w1) := hid hw1.symm
  have U1 : Hid (Below w.heap.size w w1) := by rw [hw1]; exact up_alloc _ _
  have B1 : w1.heap[w.heap.size]? = some (.cells #[.slice da dn dc, .slice aa an ac, .int .i64 seq, .int .i64 next] 42) := by rw [hw1]; exact blk_new _ _
  have x0 := blk_cell B1 0 _ rfl
  have x1 := blk_cell B1 1 _ rfl
  have x2 := blk_cell B1 2 _ rfl
  have x3 := blk_cell B1 3 _ rfl
  have HE := hid (encode_any seq next drop adds _ _ w1 (IntsR.up hd U1.out) (MetsR.up ha U1.out))
  have HP : Hid (edP seq next drop adds = if (encE seq next drop adds).2 = 0 then (edF seq next drop adds, 0) else ([], (encE seq next drop adds).2)) := rfl
  clear hw1 B1 hd ha
  go_enter Tryz.func36, Tryz.ntmps36
  go_upto_region 1 with fail
  rw [HW1.out]
  clear HW1
  by_cases c : (encE seq next drop adds).2 = 0
  · have HP2 : Hid (edP seq next drop adds = (edF seq next drop adds, 0)) := by rw [HP.out, if_pos c]; rfl
    rw [c, encE_good c] at HE
    simp only at HE
    have ho := edO_octet c
    have hl := edO_len c
    have HOl := hid (And.intro ho hl)
    clear HP c ho hl
    generalize hX : edO seq next drop adds = X at *
    have HX : Hid (edF seq next drop adds = frameOf 5 X) := by unfold Hid edF; rw [hX]
    clear hX
    go_wp2_with fail
    refine HE.out.mono ?_
    rintro e w2 ⟨a2, n2, c2, rfl, O2, b2⟩
    have U2 : Hid (Below w.heap.size w w2) := up_trans U1.out b2.out
    have h2 : Octs w2 (.slice a2 n2 c2) X := Octs.own O2.out HOl.out.1
    obtain ⟨a3, c3, e3, _⟩ := h2.slice
    injection e3 with e31 e32 e33
    subst e32
    have HF := hid (fput_good 5 a2 c2 X w2 h2 (by omega) (by omega) (by have := HOl.out.2; omega))
    clear h2 O2 b2 HE x0 x1 x2 x3 e31 e33
    go_wp2_with fail
    refine HF.out.mono ?_
    rintro e w3 ⟨v3, rfl, o3, b3⟩
    obtain ⟨a4, n4, c4, e4, _⟩ := own_shape o3
    subst e4
    have U3 : Hid (Below w.heap.size w w3) := up_trans U2.out b3
    have O3 : Hid (OwnB w3 w.heap.size (.slice a4 n4 c4) (frameOf 5 X)) := ownB_mono o3 U2.out.size
    clear o3 b3 HF
    go_wp2_with fail
    go_ret2
    rw [HP2.out, HX.out]
    exact ⟨_, _, _, rfl, O3, U3⟩
  · have HP2 : Hid (edP seq next drop adds = ([], (encE seq next drop adds).2)) := by rw [HP.out, if_neg c]; rfl
    have cb : ((encE seq next drop adds).2 == 0) = false := by simpa using c
    clear HP
    generalize (encE seq next drop adds).1 = X0 at *
    generalize (encE seq next drop adds).2 = Y at *
    go_wp2_with fail
    refine HE.out.mono ?_
    rintro e w2 ⟨a2, n2, c2, rfl, O2, b2⟩
    have U2 : Hid (Below w.heap.size w w2) := up_trans U1.out b2.out
    clear O2 b2 HE x0 x1 x2 x3
    go_wp2_with fail
    go_ret2
    rw [HP2.out]
    exact ⟨_, _, _, rfl, OwnB.nil _ _, U2⟩
set_option maxHeartbeats 1000000 in
theorem curOct_any (id : Int) (hi : 1 ≤ id ∧ id ≤ 2147483647) (w : World) :
    Calls Tryz.prog 37 #[.int .i64 id] w fun e w' => ∃ a n c, e = .returned (.tuple #[.slice a n c, .int .i64 0]) ∧ Hid (OwnB w' w.heap.size (.slice a n c) (ptrF id)) ∧ Hid (Below w.heap.size w w') := by
  have hwr : IntKind.u64.wrap id = id := wrap_u64_id _ (by omega) (by omega)
  have HP := hid (put_any id w (by omega) (by omega))
  have HO := hid (ptr_oct hi)
  have HF : Hid (ptrF id = frameOf 4 (octets id)) := rfl
  go_enter Tryz.func37, Tryz.ntmps37
  go_wp2_with fail
  refine HP.out.mono ?_
  rintro e w2 ⟨v2, rfl, o2, b2⟩
  have h2 : Octs w2 v2 (octets id) := Octs.own (base := w.heap.size) o2 HO.out.2
  obtain ⟨a2, c2, e3, _⟩ := h2.slice
  subst e3
  have U2 : Hid (Below w.heap.size w w2) := b2
  have HQ := hid (fput_good 4 a2 c2 (octets id) w2 h2 (by omega) (by omega) (by have := HO.out.1; omega))
  clear h2 o2 b2 HP
  generalize hX : octets id = X at *
  clear hX
  go_wp2_with fail
  refine HQ.out.mono ?_
  rintro e w3 ⟨v3, rfl, o3, b3⟩
  obtain ⟨a4, n4, c4, e4, _⟩ := own_shape o3
  subst e4
  have U3 : Hid (Below w.heap.size w w3) := up_trans U2.out b3
  have O3 : Hid (OwnB w3 w.heap.size (.slice a4 n4 c4) (frameOf 4 X)) := ownB_mono o3 U2.out.size
  clear o3 b3 HQ
  go_wp2_with fail
  go_ret2
  rw [HF.out]
  exact ⟨_, _, _, rfl, O3, U3⟩
theorem srow_atO {w : World} {v : Value} {l : List (List Int)} (h : Rws 1 w v (l.map srow)) (k : Nat) (hk : k < l.length) : ∃ b off cap, v = .slice (some ⟨b, off, none⟩) l.length cap ∧ w.cell? ⟨b, off + k, none⟩ = some (.string (strOfNums (l.getD k []))) := by
  obtain ⟨b, off, cap, e, _, _, hc⟩ := h.at k (by simpa using hk)
  have hg : (l.map srow).getD k [] = srow (l.getD k []) := by simp [List.getD, hk]
  rw [hg] at hc
  have c0 := hc 0 _ rfl
  simp only [Nat.mul_one, Nat.add_zero] at c0
  rw [List.length_map] at e
  exact ⟨b, off, cap, e, c0⟩
set_option maxHeartbeats 1000000 in
theorem index_any (l : List (List Int)) (hl : ∀ x ∈ l, ∀ y ∈ x, 0 ≤ y ∧ y ≤ 255) (x : List Int) (hx : ∀ y ∈ x, 0 ≤ y ∧ y ≤ 255) (v : Value) (w : World) (hv : Rws 1 w v (l.map srow)) :
    Calls Tryz.prog 124 #[v, .string (strOfNums x)] w fun e w' => ∃ r : Int, e = .returned (.int .i64 r) ∧ Hid (0 ≤ r ↔ x ∈ l) ∧ w' = w := by
  have HV : Hid (Rws 1 w v (l.map srow) ∧ (∀ x ∈ l, ∀ y ∈ x, 0 ≤ y ∧ y ≤ 255) ∧ (∀ y ∈ x, 0 ≤ y ∧ y ≤ 255)) := ⟨hv, hl, hx⟩
  obtain ⟨a, cap, rfl, hcap, hmax⟩ := hv.len
  rw [List.length_map] at *
  clear hv hl hx
  unfold maxLen at hmax
  go_enter Tryz.func124, Tryz.ntmps124
  go_wp2_with fail
  go_loopw [8] (fun i wr => ∃ k : Nat, k ≤ l.length ∧ i = .int .i64 k ∧ Hid (x ∉ l.take k) ∧ wr = w) (fun i _ => l.length - (intOf i).toNat)
  case atStart => exact ⟨0, Nat.zero_le _, rfl, by unfold Hid; simp, rfl⟩
  case round =>
    obtain ⟨k, hk, rfl, HK, hwr⟩ := hrel
    rw [hwr]
    clear hwr
    by_cases hlt : k < l.length
    · have hlt' : (k : Int) < (l.length : Int) := by omega
      obtain ⟨b2, off, cap', e, c0⟩ := srow_atO HV.out.1 k hlt
      simp at e
      obtain ⟨rfl, rfl⟩ := e
      have hmem : l.getD k [] ∈ l := by
        rw [List.getD_eq_getElem?_getD, List.getElem?_eq_getElem hlt]
        exact List.getElem_mem _
      have HT : Hid (l.take (k + 1) = l.take k ++ [l.getD k []]) := take_snoc l k _ hlt
      have HM : Hid (l.getD k [] ∈ l) := hmem
      have heq := str_eq x (l.getD k []) HV.out.2.2 (HV.out.2.1 _ hmem)
      clear hmem
      generalize l.getD k [] = y at *
      by_cases c : x = y
      · rw [decide_eq_true c] at heq
        have HR : Hid (0 ≤ (k : Int) ↔ x ∈ l) := ⟨fun _ => by rw [c]; exact HM.out, fun _ => by omega⟩
        clear c
        go_wp2_with fail
        go_ret
        exact ⟨_, rfl, HR, rfl⟩
      · rw [decide_eq_false c] at heq
        have HK2 : Hid (x ∉ l.take (k + 1)) := by
          unfold Hid
          rw [HT.out]
          intro hm
          rcases List.mem_append.1 hm with q | q
          · exact HK.out q
          · rw [List.mem_singleton] at q; exact c q
        clear c
        go_wp2_with fail
        exact ⟨⟨k + 1, by omega, by go_num, HK2, (by first | rfl | trivial)⟩, by simp [intOf]; omega⟩
    · have hlt' : ¬ (k : Int) < (l.length : Int) := by omega
      obtain rfl : k = l.length := by omega
      have HR : Hid (0 ≤ (-1 : Int) ↔ x ∈ l) := by
        have := HK.out
        rw [List.take_length] at this
        exact ⟨fun h => by omega, fun h => absurd h this⟩
      go_wp2_with fail
      go_ret
      exact ⟨_, rfl, HR, rfl⟩
theorem containsN_any (l : List (List Int)) (hl : ∀ x ∈ l, ∀ y ∈ x, 0 ≤ y ∧ y ≤ 255) (x : List Int) (hx : ∀ y ∈ x, 0 ≤ y ∧ y ≤ 255) (v : Value) (w : World) (hv : Rws 1 w v (l.map srow)) :
    Calls Tryz.prog 77 #[v, .string (strOfNums x)] w fun e w' => e = .returned (.bool (decide (x ∈ l))) ∧ w' = w := by
  have HI := hid (index_any l hl x hx v w hv)
  go_enter Tryz.func77, Tryz.ntmps77
  go_wp2_with fail
  refine HI.out.mono ?_
  rintro e w1 ⟨r, rfl, HR, rfl⟩
  go_wp2_with fail
  go_ret
  exact ⟨ret_bool (decide_eq_decide.2 HR.out), rfl⟩
end Go.Proofs.YtnchjlimkgbfpaaGreatDoor

namespace Go.Proofs.YtnchjlimkgbfpaaGreatDoor
open Go.RowKit
set_option linter.unusedVariables false
set_option linter.unusedSimpArgs false
set_option maxRecDepth 20000
def d0 : St := ⟨1048576, [], [], [], 1⟩
def d1 (M F P : List Int) : St := ⟨1048576, [(1, F, F.length), (2, P, P.length)], [(curL, 2), (M, 1)], [(curL, 2), (M, 1)], 3⟩
theorem check_d0 : checkP d0 = true := by decide +kernel
theorem good_d0 : Good d0 := check_good check_d0
theorem begin_d0 {M F P : List Int} (hm : mayOf M = true) (hMn : M ≠ nxtL) (hMc : M ≠ curL) (h1 : lessL curL M = true) (h2 : lessL M nxtL = true) (hr : (F.length : Int) + (P.length : Int) ≤ 1048576) :
    goP d0 (begA M F P) = (d1 M F P, 9, 0) := by
  have e1 : lessL M M = false := lessL_self M
  have e2 : lessL nxtL nxtL = false := lessL_self _
  have e3 : lessL nxtL M = false := by
    cases h : lessL nxtL M with
    | false => rfl
    | true => have := lessL_trans _ _ _ h2 h; rw [e1] at this; cases this
  have e4 : lessL M curL = false := by
    cases h : lessL M curL with
    | false => rfl
    | true => have := lessL_trans _ _ _ h h1; rw [e1] at this; cases this
  have e5 : mayOf nxtL = true := by decide
  have e6 : mayOf curL = true := by decide
  have e7 : lessL nxtL curL = false := by decide
  have e8 : lessL curL nxtL = true := by decide
  have e9 : curL ≠ nxtL := by decide
  have f1 : ¬ ((1048576 : Int) < (F.length : Int)) := by omega
  have f2 : ¬ ((1048576 : Int) - (F.length : Int) < (P.length : Int)) := by omega
  unfold begA d1
  generalize curL = C at *
  generalize nxtL = X at *
  have s1 : actP d0 ⟨1, M, [], []⟩ = (⟨1048576, [(1, [], 0)], [(M, 1)], [], 2⟩, 0) := by
    simp [actP, createP, d0, hm, thereN, rankN, rankOf, insN]
  have s2 : actP ⟨1048576, [(1, [], 0)], [(M, 1)], [], 2⟩ ⟨2, M, [], F⟩ = (⟨1048576, [(1, F, 0)], [(M, 1)], [], 2⟩, 0) := by
    simp [actP, extendP, hasF, idxF, idN, fileD, thereN, rankN, rankOf, thereF, rankF, usedOf, e1, f1]
  have s3 : actP ⟨1048576, [(1, F, 0)], [(M, 1)], [], 2⟩ ⟨3, M, [], []⟩ = (⟨1048576, [(1, F, F.length)], [(M, 1)], [], 2⟩, 0) := by
    simp [actP, syncP, hasF, idxF, idN, fileD, thereN, rankN, rankOf, thereF, rankF, e1]
  have s4 : actP ⟨1048576, [(1, F, F.length)], [(M, 1)], [], 2⟩ ⟨1, X, [], []⟩ = (⟨1048576, [(1, F, F.length), (2, [], 0)], [(M, 1), (X, 2)], [], 3⟩, 0) := by
    simp [actP, createP, e5, thereN, rankN, rankOf, insN, h2]
  have s5 : actP ⟨1048576, [(1, F, F.length), (2, [], 0)], [(M, 1), (X, 2)], [], 3⟩ ⟨2, X, [], P⟩ = (⟨1048576, [(1, F, F.length), (2, P, 0)], [(M, 1), (X, 2)], [], 3⟩, 0) := by
    simp [actP, extendP, hasF, idxF, idN, fileD, thereN, rankN, rankOf, thereF, rankF, usedOf, e2, h2, f2]
  have s6 : actP ⟨1048576, [(1, F, F.length), (2, P, 0)], [(M, 1), (X, 2)], [], 3⟩ ⟨3, X, [], []⟩ = (⟨1048576, [(1, F, F.length), (2, P, P.length)], [(M, 1), (X, 2)], [], 3⟩, 0) := by
    simp [actP, syncP, hasF, idxF, idN, fileD, thereN, rankN, rankOf, thereF, rankF, e2, h2]
  have s7 : actP ⟨1048576, [(1, F, F.length), (2, P, P.length)], [(M, 1), (X, 2)], [], 3⟩ ⟨6, [], [], []⟩ = (⟨1048576, [(1, F, F.length), (2, P, P.length)], [(M, 1), (X, 2)], [(M, 1), (X, 2)], 3⟩, 0) := by
    simp [actP, syncNamesP, sweptOf, standsOf]
  have s8 : actP ⟨1048576, [(1, F, F.length), (2, P, P.length)], [(M, 1), (X, 2)], [(M, 1), (X, 2)], 3⟩ ⟨4, X, C, []⟩ = (⟨1048576, [(1, F, F.length), (2, P, P.length)], [(C, 2), (M, 1)], [(M, 1), (X, 2)], 3⟩, 0) := by
    simp [actP, renameP, renamed, thereN, rankN, rankOf, insN, idN, sweptOf, standsOf, e6, e9, e2, h2, e4, hMc]
  have s9 : actP ⟨1048576, [(1, F, F.length), (2, P, P.length)], [(C, 2), (M, 1)], [(M, 1), (X, 2)], 3⟩ ⟨6, [], [], []⟩ = (⟨1048576, [(1, F, F.length), (2, P, P.length)], [(C, 2), (M, 1)], [(C, 2), (M, 1)], 3⟩, 0) := by
    simp [actP, syncNamesP, sweptOf, standsOf]
  simp [goP, s1, s2, s3, s4, s5, s6, s7, s8, s9]
theorem digs7 : digs 7 = [55] := by rw [digs_pos (by decide)]; simp [digs_zero]
theorem name_m7 : nameN 109 7 = ([109, 55], 0) := by
  have : nameN 109 7 = (109 :: digs 7, 0) := rfl
  rw [this, digs7]
theorem ptr_len {id : Int} (h : 1 ≤ id ∧ id ≤ 2147483647) : (ptrF id).length ≤ 23 := by
  have h1 := (ptr_oct h).1
  have h2 := frame_small (k := 4) (l := octets id) (by omega)
  unfold ptrF
  omega
theorem edF_len {sq nx : Int} {dr : List Int} {ad : List Me} (h : (edO sq nx dr ad).length ≤ 53028) : (edF sq nx dr ad).length ≤ 53042 := by
  have h2 := frame_small (k := 5) (l := edO sq nx dr ad) (by omega)
  unfold edF
  omega
theorem run_d0 {M F P : List Int} (hm : mayOf M = true) (hMn : M ≠ nxtL) (hMc : M ≠ curL) (h1 : lessL curL M = true) (h2 : lessL M nxtL = true) (hr : (F.length : Int) + (P.length : Int) ≤ 1048576) :
    runP d0 (begA M F P) = (d1 M F P, 9, 0) := by
  unfold runP
  rw [check_d0, if_pos rfl]
  exact begin_d0 hm hMn hMc h1 h2 hr
theorem good_d1 {M F P : List Int} (hm : mayOf M = true) (hMn : M ≠ nxtL) (hMc : M ≠ curL) (h1 : lessL curL M = true) (h2 : lessL M nxtL = true) (hr : (F.length : Int) + (P.length : Int) ≤ 1048576) : Good (d1 M F P) := by
  obtain ⟨t, h0, hd, hg, _⟩ := begin_ok good_d0 (M := M) (F := F) (P := P) hm hMn hMc rfl rfl (by simp [d0]) (by simp [d0]) (by simp [d0, usedOf]; omega)
  have := run_did (l := begA M F P) good_d0 h0 hd 9 (Nat.le_refl _)
  rw [show (begA M F P).take 9 = begA M F P from rfl, run_d0 hm hMn hMc h1 h2 hr] at this
  injection this with e _
  rw [e]
  exact hg 9 (Nat.le_refl _)
theorem at_d1 (M F P : List Int) : (At (d1 M F P) M 1 F F.length ∧ SafeAt (d1 M F P) M 1 F F.length) ∧ At (d1 M F P) curL 2 P P.length ∧ SafeAt (d1 M F P) curL 2 P P.length := by
  unfold At SafeAt d1
  simp
theorem used_d1 (M F P : List Int) : usedOf (d1 M F P).files = (F.length : Int) + (P.length : Int) := by simp [usedOf, d1]
theorem note_load {ts : List Me} {sq nx sq2 nx2 : Int} {dr : List Int} {ad : List Me} (h : (appM ts sq nx dr ad sq2 nx2).2 = 0) (keep : List Int) (j : Nat) (hj : j ≤ 2) :
    (loadP (crashP (runP (d1 [109, 55] (edF sq nx [] ts) (ptrF 7)) ((noteA [109, 55] (edF sq2 nx2 dr ad)).take j)).1 keep).1 = ((ts, sq, nx), 7, 0) ∨
      loadP (crashP (runP (d1 [109, 55] (edF sq nx [] ts) (ptrF 7)) ((noteA [109, 55] (edF sq2 nx2 dr ad)).take j)).1 keep).1 = (((appM ts sq nx dr ad sq2 nx2).1, sq2, nx2), 7, 0)) ∧
    (j = 2 → loadP (crashP (runP (d1 [109, 55] (edF sq nx [] ts) (ptrF 7)) ((noteA [109, 55] (edF sq2 nx2 dr ad)).take j)).1 keep).1 = (((appM ts sq nx dr ad sq2 nx2).1, sq2, nx2), 7, 0)) := by
  have ha := (app_ok h).1
  have q1 := edF_len (whole_enc ha).2
  have q2 := edF_len (app_ok h).2.2.2
  have p1 := ptr_len (id := 7) (by omega)
  have g := good_d1 (M := [109, 55]) (F := edF sq nx [] ts) (P := ptrF 7) (by decide) (by decide) (by decide) (by decide) (by decide) (by omega)
  have hl := at_d1 [109, 55] (edF sq nx [] ts) (ptrF 7)
  have hu := used_d1 [109, 55] (edF sq nx [] ts) (ptrF 7)
  obtain ⟨m, m1, m2, m3, m4⟩ := note_crash g hl.1.1 hl.1.2 hl.2.1 hl.2.2 (by decide) (D := edF sq2 nx2 dr ad) (by rw [hu]; simp only [d1]; omega) keep j hj
  have hmade := made_note ha h m m1
  by_cases c : m = (edF sq2 nx2 dr ad).length
  · rw [if_pos c] at hmade
    have := load_good (id := 7) (by omega) m3 (by rw [name_m7]; exact m2) hmade
    exact ⟨.inr this, fun _ => this⟩
  · rw [if_neg c] at hmade
    have := load_good (id := 7) (by omega) m3 (by rw [name_m7]; exact m2) hmade
    exact ⟨.inl this, fun e => absurd (m4 e) c⟩
end Go.Proofs.YtnchjlimkgbfpaaGreatDoor

namespace Go.Proofs.YtnchjlimkgbfpaaGreatDoor
open Go.RowKit
set_option linter.unusedVariables false
set_option linter.unusedSimpArgs false
set_option maxRecDepth 20000
theorem Tryz.infoA : (Tryz.prog.info? 94).map (fun i => (i.zero, i.size, i.bytes)) = some (some (.agg #[.int .i64 0, .string ⟨#[]⟩, .string ⟨#[]⟩, .slice none 0 0]), 4, 64) := by kernel_rfl
def laidA (there : Bool) (x d : List Int) : List Ac := (if there then [⟨5, x, [], []⟩] else []) ++ [⟨1, x, [], []⟩, ⟨2, x, [], d⟩, ⟨3, x, [], []⟩]
def nilV : Value := .slice none 0 0
def laidR (there : Bool) (x d : List Int) (vd : Value) : List ARow := (if there then [(nilV, ⟨5, x, [], []⟩)] else []) ++ [(nilV, ⟨1, x, [], []⟩), (vd, ⟨2, x, [], d⟩), (nilV, ⟨3, x, [], []⟩)]
theorem laidR_plain (there : Bool) (x d : List Int) (vd : Value) : (laidR there x d vd).map (·.2) = laidA there x d := by cases there <;> rfl
set_option maxHeartbeats 2000000 in
theorem laid_any (l : List (List Int)) (hl : ∀ x ∈ l, ∀ y ∈ x, 0 ≤ y ∧ y ≤ 255) (x : List Int) (hx : ∀ y ∈ x, 0 ≤ y ∧ y ≤ 255) (vl : Value) (a : Option Addr) (n c : Nat) (d : List Int) (w : World) (hv : Rws 1 w vl (l.map srow)) :
    Calls Tryz.prog 38 #[vl, .string (strOfNums x), .slice a n c] w fun e w' => ∃ a' n' c', e = .returned (.slice a' n' c') ∧ Hid (OwnR w' w.heap.size 94 4 (.slice a' n' c') ((laidR (decide (x ∈ l)) x d (.slice a n c)).map arow)) ∧ Hid (Below w.heap.size w w') := by
  obtain ⟨S, hS⟩ : ∃ S, S = strOfNums x := ⟨_, rfl⟩
  have HC := hid (containsN_any l hl x hx vl w hv)
  rw [← hS] at HC ⊢
  obtain ⟨av, cv, ev, _, _⟩ := hv.len
  subst ev
  clear hv hl
  rw [List.length_map] at *
  have hs0 : strOfNums [] = ({ data := #[] } : ByteArray) := rfl
  have HR3 : Hid (∀ W : World, Rws 4 (W.alloc (.cells #[.int .i64 1, .string S, .string ⟨#[]⟩, .slice none 0 0, .int .i64 2, .string S, .string ⟨#[]⟩, .slice a n c, .int .i64 3, .string S, .string ⟨#[]⟩, .slice none 0 0] 94)) (.slice (some ⟨W.heap.size, 0, none⟩) 3 3) [[.int .i64 1, .string S, .string ⟨#[]⟩, .slice none 0 0], [.int .i64 2, .string S, .string ⟨#[]⟩, .slice a n c], [.int .i64 3, .string S, .string ⟨#[]⟩, .slice none 0 0]]) :=
    fun W => Rws.made (sz := 4) W 94 [[.int .i64 1, .string S, .string ⟨#[]⟩, .slice none 0 0], [.int .i64 2, .string S, .string ⟨#[]⟩, .slice a n c], [.int .i64 3, .string S, .string ⟨#[]⟩, .slice none 0 0]] (by intro cs hcs; simp at hcs; rcases hcs with rfl | rfl | rfl <;> rfl) (by simp [maxLen])
  have HO3 : Hid (∀ cs ∈ ([[.int .i64 1, .string S, .string ⟨#[]⟩, .slice none 0 0], [.int .i64 2, .string S, .string ⟨#[]⟩, .slice a n c], [.int .i64 3, .string S, .string ⟨#[]⟩, .slice none 0 0]] : List (List Value)), ∀ u ∈ cs, u.oneCell' = true) := by
    intro cs hcs u hu
    simp at hcs
    rcases hcs with rfl | rfl | rfl <;> (simp at hu; rcases hu with rfl | rfl | rfl | rfl <;> rfl)
  generalize hq : decide (x ∈ l) = q at *
  clear hq
  cases q with
  | false =>
    have HF : Hid ((laidR false x d (.slice a n c)).map arow = [[.int .i64 1, .string S, .string ⟨#[]⟩, .slice none 0 0], [.int .i64 2, .string S, .string ⟨#[]⟩, .slice a n c], [.int .i64 3, .string S, .string ⟨#[]⟩, .slice none 0 0]]) := by
      unfold Hid
      rw [hS, ← hs0]
      rfl
    clear hS hs0
    go_enter Tryz.func38, Tryz.ntmps38
    go_wp2_with fail
    refine HC.out.mono ?_
    rintro e w1 ⟨rfl, hw1⟩
    have hw1 := hw1.symm
    subst hw1
    clear HC
    have S0 : Hid (w.heap.size ≤ (w.alloc (.cells #[.int .i64 1, .string S, .string ⟨#[]⟩, .slice none 0 0, .int .i64 2, .string S, .string ⟨#[]⟩, .slice a n c, .int .i64 3, .string S, .string ⟨#[]⟩, .slice none 0 0] 94)).heap.size) := (up_alloc _ _).size
    go_wp2_with (at_builtin; refine wpList_append_rows _ rfl _ _ 44 94 _ 4 64 rfl Tryz.underlying44 Tryz.infoA rfl (by decide) w.heap.size (.slice none 0 0) [] rfl (OwnR.nil _ _ _ _) (.slice (some ⟨w.heap.size, 0, none⟩) 3 3) _ rfl (HR3.out w) HO3.out (by simp) (by simp [maxLen]) S0.out ?_; intro v4 w4 o4 g4)
    have U4 : Hid (Below w.heap.size w w4) := (up_alloc w _).grown g4 S0.out (fun k hk => by cases hk)
    obtain ⟨a4, c4, e4, -, -⟩ := (Rws.own o4).len
    subst e4
    go_ret
    refine ⟨_, _, _, rfl, ?_, U4⟩
    rw [HF.out]
    exact o4
  | true =>
    have HF : Hid ((laidR true x d (.slice a n c)).map arow = [[.int .i64 5, .string S, .string ⟨#[]⟩, .slice none 0 0]] ++ [[.int .i64 1, .string S, .string ⟨#[]⟩, .slice none 0 0], [.int .i64 2, .string S, .string ⟨#[]⟩, .slice a n c], [.int .i64 3, .string S, .string ⟨#[]⟩, .slice none 0 0]]) := by
      unfold Hid
      rw [hS, ← hs0]
      rfl
    have HR1 : Hid (∀ W : World, Rws 4 (W.alloc (.cells #[.int .i64 5, .string S, .string ⟨#[]⟩, .slice none 0 0] 94)) (.slice (some ⟨W.heap.size, 0, none⟩) 1 1) [[.int .i64 5, .string S, .string ⟨#[]⟩, .slice none 0 0]]) :=
      fun W => Rws.made (sz := 4) W 94 [[.int .i64 5, .string S, .string ⟨#[]⟩, .slice none 0 0]] (by intro cs hcs; simp at hcs; rcases hcs with rfl; rfl) (by simp [maxLen])
    have HO1 : Hid (∀ cs ∈ ([[.int .i64 5, .string S, .string ⟨#[]⟩, .slice none 0 0]] : List (List Value)), ∀ u ∈ cs, u.oneCell' = true) := by
      intro cs hcs u hu
      simp at hcs
      rcases hcs with rfl
      simp at hu
      rcases hu with rfl | rfl | rfl | rfl <;> rfl
    clear hS hs0
    go_enter Tryz.func38, Tryz.ntmps38
    go_wp2_with fail
    refine HC.out.mono ?_
    rintro e w1 ⟨rfl, hw1⟩
    have hw1 := hw1.symm
    subst hw1
    clear HC
    have S0 : Hid (w.heap.size ≤ (w.alloc (.cells #[.int .i64 5, .string S, .string ⟨#[]⟩, .slice none 0 0] 94)).heap.size) := (up_alloc _ _).size
    go_upto_region 4 with (at_builtin; refine wpList_append_rows _ rfl _ _ 44 94 _ 4 64 rfl Tryz.underlying44 Tryz.infoA rfl (by decide) w.heap.size (.slice none 0 0) [] rfl (OwnR.nil _ _ _ _) (.slice (some ⟨w.heap.size, 0, none⟩) 1 1) _ rfl (HR1.out w) HO1.out (by simp) (by simp [maxLen]) S0.out ?_; intro v3 w3 o3 g3)
    have U3 : Hid (Below w.heap.size w w3) := (up_alloc w _).grown g3 S0.out (fun k hk => by cases hk)
    have O3 : Hid (OwnR w3 w.heap.size 94 4 v3 [[.int .i64 5, .string S, .string ⟨#[]⟩, .slice none 0 0]]) := o3
    obtain ⟨a3, c3, e3, -, -⟩ := (Rws.own o3).len
    subst e3
    have O3b : Hid (OwnR (w3.alloc (.cells #[.int .i64 1, .string S, .string ⟨#[]⟩, .slice none 0 0, .int .i64 2, .string S, .string ⟨#[]⟩, .slice a n c, .int .i64 3, .string S, .string ⟨#[]⟩, .slice none 0 0] 94)) w.heap.size 94 4 (.slice a3 1 c3) [[.int .i64 5, .string S, .string ⟨#[]⟩, .slice none 0 0]]) := O3.out.up (up_alloc _ _)
    have S3 : Hid (w.heap.size ≤ (w3.alloc (.cells #[.int .i64 1, .string S, .string ⟨#[]⟩, .slice none 0 0, .int .i64 2, .string S, .string ⟨#[]⟩, .slice a n c, .int .i64 3, .string S, .string ⟨#[]⟩, .slice none 0 0] 94)).heap.size) := (up_al U3.out _).size
    have HBel : Hid (∀ W, (w3.alloc (.cells #[.int .i64 1, .string S, .string ⟨#[]⟩, .slice none 0 0, .int .i64 2, .string S, .string ⟨#[]⟩, .slice a n c, .int .i64 3, .string S, .string ⟨#[]⟩, .slice none 0 0] 94)).grownBy W (Value.slice a3 1 c3).ownBlock → Below w.heap.size w W) := by
      intro W hg
      refine (up_al U3.out _).grown hg S3.out (fun g hk => ?_)
      rcases O3.out.2.2 with ⟨q, _⟩ | ⟨g', cap', cur, q, hbg, _⟩
      · injection q with q _ _; subst q; simp [Value.ownBlock] at hk
      · injection q with q _ _; subst q; simp [Value.ownBlock] at hk; omega
    clear o3 g3
    go_wp2_with (at_builtin; refine wpList_append_rows _ rfl _ _ 44 94 _ 4 64 rfl Tryz.underlying44 Tryz.infoA rfl (by decide) w.heap.size (.slice a3 1 c3) [[.int .i64 5, .string S, .string ⟨#[]⟩, .slice none 0 0]] rfl O3b.out (.slice (some ⟨w3.heap.size, 0, none⟩) 3 3) _ rfl (HR3.out w3) HO3.out (by simp) (by simp [maxLen]) S3.out ?_; intro v4 w4 o4 g4)
    have U4 : Hid (Below w.heap.size w w4) := HBel.out _ g4
    obtain ⟨a4, c4, e4, -, -⟩ := (Rws.own o4).len
    subst e4
    go_ret
    refine ⟨_, _, _, rfl, ?_, U4⟩
    rw [HF.out]
    exact o4
end Go.Proofs.YtnchjlimkgbfpaaGreatDoor
