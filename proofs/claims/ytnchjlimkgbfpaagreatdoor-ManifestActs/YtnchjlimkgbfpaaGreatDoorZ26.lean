/- The texts OOct, OHas, OState, OLaid, AApply, AWhole, in this order. -/
import Derived.Test.YtnchjlimkgbfpaaGreatDoorZ23
import Derived.Test.YtnchjlimkgbfpaaGreatDoorNEnc
import Derived.Test.YtnchjlimkgbfpaaGreatDoorZ20
import Derived.Test.YtnchjlimkgbfpaaGreatDoorZ12
import Derived.Test.YtnchjlimkgbfpaaGreatDoorZ14
import Derived.Deep.RegionHeld3
import Derived.Deep.Cut
import Derived.Test.YtnchjlimkgbfpaaGreatDoorZ22

namespace Go.Proofs.YtnchjlimkgbfpaaGreatDoor
open Go.RowKit
set_option linter.unusedVariables false
set_option linter.unusedSimpArgs false
set_option maxRecDepth 20000
theorem oct6 {n : Int} (h0 : 0 ≤ n) (h1 : n ≤ 1099511627776) : (octets n).length ≤ 6 := by
  have := (octets_form n h0 (by omega)).size
  rcases size_cases n h0 (by omega) with q | q | q | q | q | q | q | q | q <;> omega
theorem metO_e {m : Me} (h : metE m = true) : (metO m).length ≤ 212 := by
  have q := metE_iff.1 h
  unfold metO txtE
  simp only [List.length_append]
  have a1 := oct6 (n := m.id) (by omega) (by omega)
  have a2 := oct6 (n := m.lvl) (by omega) (by omega)
  have a3 := oct6 (n := m.cnt) (by omega) (by omega)
  have a4 := oct1 (n := (m.low.size : Int)) (by omega) (by omega)
  have a5 := oct1 (n := (m.high.size : Int)) (by omega) (by omega)
  have a6 : (nums m.low).length = m.low.size := nums_length _
  have a7 : (nums m.high).length = m.high.size := nums_length _
  omega
theorem metsO_e : ∀ l : List Me, (∀ m ∈ l, metE m = true) → (metsO l).length ≤ 212 * l.length
  | [], _ => by simp [metsO]
  | x :: t, h => by
    have h1 := metsO_e t (fun m hm => h m (List.mem_cons_of_mem _ hm))
    have h2 := metO_e (h x List.mem_cons_self)
    simp only [metsO, List.length_append, List.length_cons]
    omega
theorem idsO_e : ∀ l : List Int, (∀ i ∈ l, numE i = true) → (idsO l).length ≤ 6 * l.length
  | [], _ => by simp [idsO]
  | x :: t, h => by
    have h1 := idsO_e t (fun m hm => h m (List.mem_cons_of_mem _ hm))
    have h2 := numE_iff.1 (h x List.mem_cons_self)
    have h3 := oct6 (n := x) (by omega) (by omega)
    simp only [idsO, List.length_append, List.length_cons]
    omega
theorem edO_len {sq nx : Int} {dr : List Int} {ad : List Me} (h : (encE sq nx dr ad).2 = 0) : (edO sq nx dr ad).length ≤ 60000 := by
  obtain ⟨h1, h2, h3, h4, h5, h6⟩ := encE_zero.1 h
  have h3 := numE_iff.1 h3
  have h4 := numE_iff.1 h4
  unfold edO
  simp only [List.length_append]
  have a1 := oct9 (n := sq) (by omega) (by omega)
  have a2 := oct9 (n := nx) (by omega) (by omega)
  have a3 := oct9 (n := (dr.length : Int)) (by omega) (by omega)
  have a4 := oct9 (n := (ad.length : Int)) (by omega) (by omega)
  have a5 := idsO_e dr h5
  have a6 := metsO_e ad h6
  omega
def edP (sq nx : Int) (dr : List Int) (ad : List Me) : List Int × Int := if (encE sq nx dr ad).2 = 0 then (edF sq nx dr ad, 0) else ([], (encE sq nx dr ad).2)
theorem edP_oct (sq nx : Int) (dr : List Int) (ad : List Me) : ∀ x ∈ (edP sq nx dr ad).1, 0 ≤ x ∧ x ≤ 255 := by
  unfold edP
  by_cases h : (encE sq nx dr ad).2 = 0
  · rw [if_pos h]
    exact frame_octet 5 _ (by omega) (by have := edO_len h; omega) (edO_octet h)
  · rw [if_neg h]
    intro x hx
    cases hx
set_option maxHeartbeats 1000000 in
theorem edOct_any (seq next : Int) (drop : List Int) (adds : List Me) (da aa : Option Addr) (dn dc an ac : Nat) (w : World) (hd : IntsR w (.slice da dn dc) drop) (ha : MetsR w (.slice aa an ac) adds) :
    Calls Tryz.prog 36 #[.agg #[.slice da dn dc, .slice aa an ac, .int .i64 seq, .int .i64 next]] w fun e w' => ∃ a n c, e = .returned (.tuple #[.slice a n c, .int .i64 (edP seq next drop adds).2]) ∧ Hid (OwnB w' w.heap.size (.slice a n c) (edP seq next drop adds).1) ∧ Hid (Below w.heap.size w w') := by
  obtain ⟨w1, hw1⟩ : ∃ w1, w1 = w.alloc (.cells #[.slice da dn dc, .slice aa an ac, .int .i64 seq, .int .i64 next] 42) := ⟨_, rfl⟩
  have HW1 : Hid (w.alloc (.cells #[.slice da dn dc, .slice aa an ac, .int .i64 seq, .int .i64 next] 42) = w1) := hid hw1.symm
  have U1 : Hid (Below w.heap.size w w1) := by rw [hw1]; exact up_alloc _ _
  have B1 : w1.heap[w.heap.size]? = some (.cells #[.slice da dn dc, .slice aa an ac, .int .i64 seq, .int .i64 next] 42) := by rw [hw1]; exact blk_new _ _
  have x0 := blk_cell B1 0 _ rfl
  have x1 := blk_cell B1 1 _ rfl
  have x2 := blk_cell B1 2 _ rfl
  have x3 := blk_cell B1 3 _ rfl
  have HE := hid (encode_any seq next drop adds _ _ w1 (IntsR.up hd U1.out) (MetsR.up ha U1.out))
  have HP : Hid (edP seq next drop adds = if (encE seq next drop adds).2 = 0 then (edF seq next drop adds, 0) else ([], (encE seq next drop adds).2)) := rfl
  clear hw1 B1 hd ha
  go_enter Tryz.func36, Tryz.ntmps36
  go_upto_region 1 with fail
  rw [HW1.out]
  clear HW1
  by_cases c : (encE seq next drop adds).2 = 0
  · have HP2 : Hid (edP seq next drop adds = (edF seq next drop adds, 0)) := by rw [HP.out, if_pos c]; rfl
    rw [c, encE_good c] at HE
    simp only at HE
    have ho := edO_octet c
    have hl := edO_len c
    have HOl := hid (And.intro ho hl)
    clear HP c ho hl
    generalize hX : edO seq next drop adds = X at *
    have HX : Hid (edF seq next drop adds = frameOf 5 X) := by unfold Hid edF; rw [hX]
    clear hX
    go_wp2_with fail
    refine HE.out.mono ?_
    rintro e w2 ⟨a2, n2, c2, rfl, O2, b2⟩
    have U2 : Hid (Below w.heap.size w w2) := up_trans U1.out b2.out
    have h2 : Octs w2 (.slice a2 n2 c2) X := Octs.own O2.out HOl.out.1
    obtain ⟨a3, c3, e3, _⟩ := h2.slice
    injection e3 with e31 e32 e33
    subst e32
    have HF := hid (fput_good 5 a2 c2 X w2 h2 (by omega) (by omega) (by have := HOl.out.2; omega))
    clear h2 O2 b2 HE x0 x1 x2 x3 e31 e33
    go_wp2_with fail
    refine HF.out.mono ?_
    rintro e w3 ⟨v3, rfl, o3, b3⟩
    obtain ⟨a4, n4, c4, e4, _⟩ := own_shape o3
    subst e4
    have U3 : Hid (Below w.heap.size w w3) := up_trans U2.out b3
    have O3 : Hid (OwnB w3 w.heap.size (.slice a4 n4 c4) (frameOf 5 X)) := ownB_mono o3 U2.out.size
    clear o3 b3 HF
    go_wp2_with fail
    go_ret2
    rw [HP2.out, HX.out]
    exact ⟨_, _, _, rfl, O3, U3⟩
  · have HP2 : Hid (edP seq next drop adds = ([], (encE seq next drop adds).2)) := by rw [HP.out, if_neg c]; rfl
    have cb : ((encE seq next drop adds).2 == 0) = false := by simpa using c
    clear HP
    generalize (encE seq next drop adds).1 = X0 at *
    generalize (encE seq next drop adds).2 = Y at *
    go_wp2_with fail
    refine HE.out.mono ?_
    rintro e w2 ⟨a2, n2, c2, rfl, O2, b2⟩
    have U2 : Hid (Below w.heap.size w w2) := up_trans U1.out b2.out
    clear O2 b2 HE x0 x1 x2 x3
    go_wp2_with fail
    go_ret2
    rw [HP2.out]
    exact ⟨_, _, _, rfl, OwnB.nil _ _, U2⟩
set_option maxHeartbeats 1000000 in
theorem curOct_any (id : Int) (hi : 1 ≤ id ∧ id ≤ 2147483647) (w : World) :
    Calls Tryz.prog 37 #[.int .i64 id] w fun e w' => ∃ a n c, e = .returned (.tuple #[.slice a n c, .int .i64 0]) ∧ Hid (OwnB w' w.heap.size (.slice a n c) (ptrF id)) ∧ Hid (Below w.heap.size w w') := by
  have hwr : IntKind.u64.wrap id = id := wrap_u64_id _ (by omega) (by omega)
  have HP := hid (put_any id w (by omega) (by omega))
  have HO := hid (ptr_oct hi)
  have HF : Hid (ptrF id = frameOf 4 (octets id)) := rfl
  go_enter Tryz.func37, Tryz.ntmps37
  go_wp2_with fail
  refine HP.out.mono ?_
  rintro e w2 ⟨v2, rfl, o2, b2⟩
  have h2 : Octs w2 v2 (octets id) := Octs.own (base := w.heap.size) o2 HO.out.2
  obtain ⟨a2, c2, e3, _⟩ := h2.slice
  subst e3
  have U2 : Hid (Below w.heap.size w w2) := b2
  have HQ := hid (fput_good 4 a2 c2 (octets id) w2 h2 (by omega) (by omega) (by have := HO.out.1; omega))
  clear h2 o2 b2 HP
  generalize hX : octets id = X at *
  clear hX
  go_wp2_with fail
  refine HQ.out.mono ?_
  rintro e w3 ⟨v3, rfl, o3, b3⟩
  obtain ⟨a4, n4, c4, e4, _⟩ := own_shape o3
  subst e4
  have U3 : Hid (Below w.heap.size w w3) := up_trans U2.out b3
  have O3 : Hid (OwnB w3 w.heap.size (.slice a4 n4 c4) (frameOf 4 X)) := ownB_mono o3 U2.out.size
  clear o3 b3 HQ
  go_wp2_with fail
  go_ret2
  rw [HF.out]
  exact ⟨_, _, _, rfl, O3, U3⟩
theorem srow_atO {w : World} {v : Value} {l : List (List Int)} (h : Rws 1 w v (l.map srow)) (k : Nat) (hk : k < l.length) : ∃ b off cap, v = .slice (some ⟨b, off, none⟩) l.length cap ∧ w.cell? ⟨b, off + k, none⟩ = some (.string (strOfNums (l.getD k []))) := by
  obtain ⟨b, off, cap, e, _, _, hc⟩ := h.at k (by simpa using hk)
  have hg : (l.map srow).getD k [] = srow (l.getD k []) := by simp [List.getD, hk]
  rw [hg] at hc
  have c0 := hc 0 _ rfl
  simp only [Nat.mul_one, Nat.add_zero] at c0
  rw [List.length_map] at e
  exact ⟨b, off, cap, e, c0⟩
set_option maxHeartbeats 1000000 in
theorem index_any (l : List (List Int)) (hl : ∀ x ∈ l, ∀ y ∈ x, 0 ≤ y ∧ y ≤ 255) (x : List Int) (hx : ∀ y ∈ x, 0 ≤ y ∧ y ≤ 255) (v : Value) (w : World) (hv : Rws 1 w v (l.map srow)) :
    Calls Tryz.prog 124 #[v, .string (strOfNums x)] w fun e w' => ∃ r : Int, e = .returned (.int .i64 r) ∧ Hid (0 ≤ r ↔ x ∈ l) ∧ w' = w := by
  have HV : Hid (Rws 1 w v (l.map srow) ∧ (∀ x ∈ l, ∀ y ∈ x, 0 ≤ y ∧ y ≤ 255) ∧ (∀ y ∈ x, 0 ≤ y ∧ y ≤ 255)) := ⟨hv, hl, hx⟩
  obtain ⟨a, cap, rfl, hcap, hmax⟩ := hv.len
  rw [List.length_map] at *
  clear hv hl hx
  unfold maxLen at hmax
  go_enter Tryz.func124, Tryz.ntmps124
  go_wp2_with fail
  go_loopw [8] (fun i wr => ∃ k : Nat, k ≤ l.length ∧ i = .int .i64 k ∧ Hid (x ∉ l.take k) ∧ wr = w) (fun i _ => l.length - (intOf i).toNat)
  case atStart => exact ⟨0, Nat.zero_le _, rfl, by unfold Hid; simp, rfl⟩
  case round =>
    obtain ⟨k, hk, rfl, HK, hwr⟩ := hrel
    rw [hwr]
    clear hwr
    by_cases hlt : k < l.length
    · have hlt' : (k : Int) < (l.length : Int) := by omega
      obtain ⟨b2, off, cap', e, c0⟩ := srow_atO HV.out.1 k hlt
      simp at e
      obtain ⟨rfl, rfl⟩ := e
      have hmem : l.getD k [] ∈ l := by
        rw [List.getD_eq_getElem?_getD, List.getElem?_eq_getElem hlt]
        exact List.getElem_mem _
      have HT : Hid (l.take (k + 1) = l.take k ++ [l.getD k []]) := take_snoc l k _ hlt
      have HM : Hid (l.getD k [] ∈ l) := hmem
      have heq := str_eq x (l.getD k []) HV.out.2.2 (HV.out.2.1 _ hmem)
      clear hmem
      generalize l.getD k [] = y at *
      by_cases c : x = y
      · rw [decide_eq_true c] at heq
        have HR : Hid (0 ≤ (k : Int) ↔ x ∈ l) := ⟨fun _ => by rw [c]; exact HM.out, fun _ => by omega⟩
        clear c
        go_wp2_with fail
        go_ret
        exact ⟨_, rfl, HR, rfl⟩
      · rw [decide_eq_false c] at heq
        have HK2 : Hid (x ∉ l.take (k + 1)) := by
          unfold Hid
          rw [HT.out]
          intro hm
          rcases List.mem_append.1 hm with q | q
          · exact HK.out q
          · rw [List.mem_singleton] at q; exact c q
        clear c
        go_wp2_with fail
        exact ⟨⟨k + 1, by omega, by go_num, HK2, (by first | rfl | trivial)⟩, by simp [intOf]; omega⟩
    · have hlt' : ¬ (k : Int) < (l.length : Int) := by omega
      obtain rfl : k = l.length := by omega
      have HR : Hid (0 ≤ (-1 : Int) ↔ x ∈ l) := by
        have := HK.out
        rw [List.take_length] at this
        exact ⟨fun h => by omega, fun h => absurd h this⟩
      go_wp2_with fail
      go_ret
      exact ⟨_, rfl, HR, rfl⟩
theorem containsN_any (l : List (List Int)) (hl : ∀ x ∈ l, ∀ y ∈ x, 0 ≤ y ∧ y ≤ 255) (x : List Int) (hx : ∀ y ∈ x, 0 ≤ y ∧ y ≤ 255) (v : Value) (w : World) (hv : Rws 1 w v (l.map srow)) :
    Calls Tryz.prog 77 #[v, .string (strOfNums x)] w fun e w' => e = .returned (.bool (decide (x ∈ l))) ∧ w' = w := by
  have HI := hid (index_any l hl x hx v w hv)
  go_enter Tryz.func77, Tryz.ntmps77
  go_wp2_with fail
  refine HI.out.mono ?_
  rintro e w1 ⟨r, rfl, HR, rfl⟩
  go_wp2_with fail
  go_ret
  exact ⟨ret_bool (decide_eq_decide.2 HR.out), rfl⟩
end Go.Proofs.YtnchjlimkgbfpaaGreatDoor

namespace Go.Proofs.YtnchjlimkgbfpaaGreatDoor
open Go.RowKit
set_option linter.unusedVariables false
set_option linter.unusedSimpArgs false
set_option maxRecDepth 20000
theorem read_there {s : St} (hc : checkP s = true) (x : List Int) : ((readP s x).2 == 0) = decide (x ∈ s.names.map (·.1)) := by
  have HG := check_good hc
  by_cases h : x ∈ s.names.map (·.1)
  · obtain ⟨y, hy, e⟩ := List.mem_map.1 h
    obtain ⟨k, hk, ek⟩ := List.mem_iff_getElem.1 hy
    obtain ⟨j, hj, ej, _, _⟩ := named HG hk
    have hrd := read_at HG hk hj ej
    have : (s.names[k]).1 = x := by rw [ek]; exact e
    rw [this] at hrd
    rw [hrd]
    simp [h]
  · have : (readP s x).2 ≠ 0 := by
      intro e
      unfold readP at e
      rw [hc] at e
      simp only [if_true] at e
      by_cases q : hasF s x = true
      · unfold hasF at q
        rw [Bool.and_eq_true] at q
        obtain ⟨hi, ee⟩ := there_at q.1
        exact h (List.mem_map.2 ⟨_, List.getElem_mem hi, ee⟩)
      · rw [if_neg q] at e
        exact absurd e (by decide)
    simp [this, h]
set_option maxHeartbeats 1000000 in
theorem refHas_any (s : St) (name : List Int) (hna : OctL name) (v : Value) (w : World) (hv : StW w v s) (hc : checkP s = true) :
    Calls Tryz.prog 85 #[v, .string (strOfNums name)] w fun e w' => e = .returned (.bool (decide (name ∈ s.names.map (·.1)))) ∧ Hid (Below w.heap.size w w') := by
  obtain ⟨af, nf, cf, an, nn, cn, as', ns, cs', ev⟩ := hv.shape
  subst ev
  have HT := hid (read_there hc name)
  obtain ⟨w1, hw1⟩ : ∃ w1, w1 = w.alloc (.cells #[.int .i64 s.cap, .slice af nf cf, .slice an nn cn, .slice as' ns cs', .int .i64 s.next] 25) := ⟨_, rfl⟩
  have HW1 : Hid (w.alloc (.cells #[.int .i64 s.cap, .slice af nf cf, .slice an nn cn, .slice as' ns cs', .int .i64 s.next] 25) = w1) := hid hw1.symm
  have U1 : Hid (Below w.heap.size w w1) := by rw [hw1]; exact up_alloc _ _
  have B1 : Hid (w1.heap[w.heap.size]? = some (.cells #[.int .i64 s.cap, .slice af nf cf, .slice an nn cn, .slice as' ns cs', .int .i64 s.next] 25)) := by rw [hw1]; exact blk_new _ _
  have HR := hid (refRead_any s name hna _ w1 (hv.up U1.out))
  have x0 := blk_cell B1.out 0 _ rfl
  have x1 := blk_cell B1.out 1 _ rfl
  have x2 := blk_cell B1.out 2 _ rfl
  have x3 := blk_cell B1.out 3 _ rfl
  have x4 := blk_cell B1.out 4 _ rfl
  generalize strOfNums name = S at *
  generalize (readP s name).2 = E at *
  generalize (readP s name).1 = L at *
  generalize decide (name ∈ s.names.map (·.1)) = b at *
  clear hw1 hv hc B1
  have hb : (E == 0) = b := HT.out
  go_enter Tryz.func85, Tryz.ntmps85
  go_upto_region 1 with fail
  rw [HW1.out]
  clear HW1
  go_wp2_with fail
  refine HR.out.mono ?_
  rintro e w2 ⟨v2, rfl, o2, l2, b2⟩
  have U2 : Hid (Below w.heap.size w w2) := up_trans U1.out b2
  obtain ⟨a4, n4, c4, e4, _⟩ := own_shape o2
  subst e4
  clear o2 l2 b2 HR x0 x1 x2 x3 x4
  go_wp2_with fail
  go_ret
  exact ⟨rfl, U2⟩
end Go.Proofs.YtnchjlimkgbfpaaGreatDoor

namespace Go.Proofs.YtnchjlimkgbfpaaGreatDoor
open Go.RowKit
set_option linter.unusedVariables false
set_option linter.unusedSimpArgs false
set_option maxRecDepth 20000
def d0 : St := ⟨1048576, [], [], [], 1⟩
def d1 (M F P : List Int) : St := ⟨1048576, [(1, F, F.length), (2, P, P.length)], [(curL, 2), (M, 1)], [(curL, 2), (M, 1)], 3⟩
end Go.Proofs.YtnchjlimkgbfpaaGreatDoor

namespace Go.Proofs.YtnchjlimkgbfpaaGreatDoor
open Go.RowKit
set_option linter.unusedVariables false
set_option linter.unusedSimpArgs false
set_option maxRecDepth 20000
theorem Tryz.infoA : (Tryz.prog.info? 94).map (fun i => (i.zero, i.size, i.bytes)) = some (some (.agg #[.int .i64 0, .string ⟨#[]⟩, .string ⟨#[]⟩, .slice none 0 0]), 4, 64) := by kernel_rfl
def laidA (there : Bool) (x d : List Int) : List Ac := (if there then [⟨5, x, [], []⟩] else []) ++ [⟨1, x, [], []⟩, ⟨2, x, [], d⟩, ⟨3, x, [], []⟩]
def nilV : Value := .slice none 0 0
def laidR (there : Bool) (x d : List Int) (vd : Value) : List ARow := (if there then [(nilV, ⟨5, x, [], []⟩)] else []) ++ [(nilV, ⟨1, x, [], []⟩), (vd, ⟨2, x, [], d⟩), (nilV, ⟨3, x, [], []⟩)]
theorem laidR_plain (there : Bool) (x d : List Int) (vd : Value) : (laidR there x d vd).map (·.2) = laidA there x d := by cases there <;> rfl
set_option maxHeartbeats 2000000 in
theorem laid_any (l : List (List Int)) (hl : ∀ x ∈ l, ∀ y ∈ x, 0 ≤ y ∧ y ≤ 255) (x : List Int) (hx : ∀ y ∈ x, 0 ≤ y ∧ y ≤ 255) (vl : Value) (a : Option Addr) (n c : Nat) (d : List Int) (w : World) (hv : Rws 1 w vl (l.map srow)) :
    Calls Tryz.prog 38 #[vl, .string (strOfNums x), .slice a n c] w fun e w' => ∃ a' n' c', e = .returned (.slice a' n' c') ∧ Hid (OwnR w' w.heap.size 94 4 (.slice a' n' c') ((laidR (decide (x ∈ l)) x d (.slice a n c)).map arow)) ∧ Hid (Below w.heap.size w w') := by
  obtain ⟨S, hS⟩ : ∃ S, S = strOfNums x := ⟨_, rfl⟩
  have HC := hid (containsN_any l hl x hx vl w hv)
  rw [← hS] at HC ⊢
  obtain ⟨av, cv, ev, _, _⟩ := hv.len
  subst ev
  clear hv hl
  rw [List.length_map] at *
  have hs0 : strOfNums [] = ({ data := #[] } : ByteArray) := rfl
  have HR3 : Hid (∀ W : World, Rws 4 (W.alloc (.cells #[.int .i64 1, .string S, .string ⟨#[]⟩, .slice none 0 0, .int .i64 2, .string S, .string ⟨#[]⟩, .slice a n c, .int .i64 3, .string S, .string ⟨#[]⟩, .slice none 0 0] 94)) (.slice (some ⟨W.heap.size, 0, none⟩) 3 3) [[.int .i64 1, .string S, .string ⟨#[]⟩, .slice none 0 0], [.int .i64 2, .string S, .string ⟨#[]⟩, .slice a n c], [.int .i64 3, .string S, .string ⟨#[]⟩, .slice none 0 0]]) :=
    fun W => Rws.made (sz := 4) W 94 [[.int .i64 1, .string S, .string ⟨#[]⟩, .slice none 0 0], [.int .i64 2, .string S, .string ⟨#[]⟩, .slice a n c], [.int .i64 3, .string S, .string ⟨#[]⟩, .slice none 0 0]] (by intro cs hcs; simp at hcs; rcases hcs with rfl | rfl | rfl <;> rfl) (by simp [maxLen])
  have HO3 : Hid (∀ cs ∈ ([[.int .i64 1, .string S, .string ⟨#[]⟩, .slice none 0 0], [.int .i64 2, .string S, .string ⟨#[]⟩, .slice a n c], [.int .i64 3, .string S, .string ⟨#[]⟩, .slice none 0 0]] : List (List Value)), ∀ u ∈ cs, u.oneCell' = true) := by
    intro cs hcs u hu
    simp at hcs
    rcases hcs with rfl | rfl | rfl <;> (simp at hu; rcases hu with rfl | rfl | rfl | rfl <;> rfl)
  generalize hq : decide (x ∈ l) = q at *
  clear hq
  cases q with
  | false =>
    have HF : Hid ((laidR false x d (.slice a n c)).map arow = [[.int .i64 1, .string S, .string ⟨#[]⟩, .slice none 0 0], [.int .i64 2, .string S, .string ⟨#[]⟩, .slice a n c], [.int .i64 3, .string S, .string ⟨#[]⟩, .slice none 0 0]]) := by
      unfold Hid
      rw [hS, ← hs0]
      rfl
    clear hS hs0
    go_enter Tryz.func38, Tryz.ntmps38
    go_wp2_with fail
    refine HC.out.mono ?_
    rintro e w1 ⟨rfl, hw1⟩
    have hw1 := hw1.symm
    subst hw1
    clear HC
    have S0 : Hid (w.heap.size ≤ (w.alloc (.cells #[.int .i64 1, .string S, .string ⟨#[]⟩, .slice none 0 0, .int .i64 2, .string S, .string ⟨#[]⟩, .slice a n c, .int .i64 3, .string S, .string ⟨#[]⟩, .slice none 0 0] 94)).heap.size) := (up_alloc _ _).size
    go_wp2_with (at_builtin; refine wpList_append_rows _ rfl _ _ 44 94 _ 4 64 rfl Tryz.underlying44 Tryz.infoA rfl (by decide) w.heap.size (.slice none 0 0) [] rfl (OwnR.nil _ _ _ _) (.slice (some ⟨w.heap.size, 0, none⟩) 3 3) _ rfl (HR3.out w) HO3.out (by simp) (by simp [maxLen]) S0.out ?_; intro v4 w4 o4 g4)
    have U4 : Hid (Below w.heap.size w w4) := (up_alloc w _).grown g4 S0.out (fun k hk => by cases hk)
    obtain ⟨a4, c4, e4, -, -⟩ := (Rws.own o4).len
    subst e4
    go_ret
    refine ⟨_, _, _, rfl, ?_, U4⟩
    rw [HF.out]
    exact o4
  | true =>
    have HF : Hid ((laidR true x d (.slice a n c)).map arow = [[.int .i64 5, .string S, .string ⟨#[]⟩, .slice none 0 0]] ++ [[.int .i64 1, .string S, .string ⟨#[]⟩, .slice none 0 0], [.int .i64 2, .string S, .string ⟨#[]⟩, .slice a n c], [.int .i64 3, .string S, .string ⟨#[]⟩, .slice none 0 0]]) := by
      unfold Hid
      rw [hS, ← hs0]
      rfl
    have HR1 : Hid (∀ W : World, Rws 4 (W.alloc (.cells #[.int .i64 5, .string S, .string ⟨#[]⟩, .slice none 0 0] 94)) (.slice (some ⟨W.heap.size, 0, none⟩) 1 1) [[.int .i64 5, .string S, .string ⟨#[]⟩, .slice none 0 0]]) :=
      fun W => Rws.made (sz := 4) W 94 [[.int .i64 5, .string S, .string ⟨#[]⟩, .slice none 0 0]] (by intro cs hcs; simp at hcs; rcases hcs with rfl; rfl) (by simp [maxLen])
    have HO1 : Hid (∀ cs ∈ ([[.int .i64 5, .string S, .string ⟨#[]⟩, .slice none 0 0]] : List (List Value)), ∀ u ∈ cs, u.oneCell' = true) := by
      intro cs hcs u hu
      simp at hcs
      rcases hcs with rfl
      simp at hu
      rcases hu with rfl | rfl | rfl | rfl <;> rfl
    clear hS hs0
    go_enter Tryz.func38, Tryz.ntmps38
    go_wp2_with fail
    refine HC.out.mono ?_
    rintro e w1 ⟨rfl, hw1⟩
    have hw1 := hw1.symm
    subst hw1
    clear HC
    have S0 : Hid (w.heap.size ≤ (w.alloc (.cells #[.int .i64 5, .string S, .string ⟨#[]⟩, .slice none 0 0] 94)).heap.size) := (up_alloc _ _).size
    go_upto_region 4 with (at_builtin; refine wpList_append_rows _ rfl _ _ 44 94 _ 4 64 rfl Tryz.underlying44 Tryz.infoA rfl (by decide) w.heap.size (.slice none 0 0) [] rfl (OwnR.nil _ _ _ _) (.slice (some ⟨w.heap.size, 0, none⟩) 1 1) _ rfl (HR1.out w) HO1.out (by simp) (by simp [maxLen]) S0.out ?_; intro v3 w3 o3 g3)
    have U3 : Hid (Below w.heap.size w w3) := (up_alloc w _).grown g3 S0.out (fun k hk => by cases hk)
    have O3 : Hid (OwnR w3 w.heap.size 94 4 v3 [[.int .i64 5, .string S, .string ⟨#[]⟩, .slice none 0 0]]) := o3
    obtain ⟨a3, c3, e3, -, -⟩ := (Rws.own o3).len
    subst e3
    have O3b : Hid (OwnR (w3.alloc (.cells #[.int .i64 1, .string S, .string ⟨#[]⟩, .slice none 0 0, .int .i64 2, .string S, .string ⟨#[]⟩, .slice a n c, .int .i64 3, .string S, .string ⟨#[]⟩, .slice none 0 0] 94)) w.heap.size 94 4 (.slice a3 1 c3) [[.int .i64 5, .string S, .string ⟨#[]⟩, .slice none 0 0]]) := O3.out.up (up_alloc _ _)
    have S3 : Hid (w.heap.size ≤ (w3.alloc (.cells #[.int .i64 1, .string S, .string ⟨#[]⟩, .slice none 0 0, .int .i64 2, .string S, .string ⟨#[]⟩, .slice a n c, .int .i64 3, .string S, .string ⟨#[]⟩, .slice none 0 0] 94)).heap.size) := (up_al U3.out _).size
    have HBel : Hid (∀ W, (w3.alloc (.cells #[.int .i64 1, .string S, .string ⟨#[]⟩, .slice none 0 0, .int .i64 2, .string S, .string ⟨#[]⟩, .slice a n c, .int .i64 3, .string S, .string ⟨#[]⟩, .slice none 0 0] 94)).grownBy W (Value.slice a3 1 c3).ownBlock → Below w.heap.size w W) := by
      intro W hg
      refine (up_al U3.out _).grown hg S3.out (fun g hk => ?_)
      rcases O3.out.2.2 with ⟨q, _⟩ | ⟨g', cap', cur, q, hbg, _⟩
      · injection q with q _ _; subst q; simp [Value.ownBlock] at hk
      · injection q with q _ _; subst q; simp [Value.ownBlock] at hk; omega
    clear o3 g3
    go_wp2_with (at_builtin; refine wpList_append_rows _ rfl _ _ 44 94 _ 4 64 rfl Tryz.underlying44 Tryz.infoA rfl (by decide) w.heap.size (.slice a3 1 c3) [[.int .i64 5, .string S, .string ⟨#[]⟩, .slice none 0 0]] rfl O3b.out (.slice (some ⟨w3.heap.size, 0, none⟩) 3 3) _ rfl (HR3.out w3) HO3.out (by simp) (by simp [maxLen]) S3.out ?_; intro v4 w4 o4 g4)
    have U4 : Hid (Below w.heap.size w w4) := HBel.out _ g4
    obtain ⟨a4, c4, e4, -, -⟩ := (Rws.own o4).len
    subst e4
    go_ret
    refine ⟨_, _, _, rfl, ?_, U4⟩
    rw [HF.out]
    exact o4
end Go.Proofs.YtnchjlimkgbfpaaGreatDoor

namespace Go.Proofs.YtnchjlimkgbfpaaGreatDoor
open Go.RowKit
set_option linter.unusedVariables false
set_option maxRecDepth 20000
set_option linter.unusedSimpArgs false
theorem results_edt {fn : Func} {t : TypeId} {p q : Nat} (h : fn.results = #[.cell p t, .tmp q]) (hl : t = 42 ∨ t = 31) (tmps : Array Value) (w : World) {N : Nat} {a b c d : Value} (ht : tmps.getD p undef = .pointer (some ⟨N, 0, none⟩))
    (hc : w.heap[N]? = some (.cells #[a, b, c, d] t)) : (results fn tmps).run Tryz.prog w = .ok (.tuple #[.agg #[a, b, c, d], tmps.getD q undef]) w := by
  have c0 := blk_cell hc 0 a rfl
  have c1 := blk_cell hc 1 b rfl
  have c2 := blk_cell hc 2 c rfl
  have c3 := blk_cell hc 3 d rfl
  have ht' : tmps[p]?.getD undef = .pointer (some ⟨N, 0, none⟩) := by simpa using ht
  rcases hl with rfl | rfl
  · simp only [results, h]
    simp [ht', go_sem, c0, c1, c2, c3]
  · simp only [results, h]
    simp [ht', go_sem, c0, c1, c2, c3]
theorem set3_blk {W : World} {N : Nat} {x y z : Value} {t : TypeId} (h : W.heap[N]? = some (.cells #[x, y, z] t)) (a b c : Value) : (((W.setCell ⟨N, 0, none⟩ a).setCell ⟨N, 1, none⟩ b).setCell ⟨N, 2, none⟩ c).heap[N]? = some (.cells #[a, b, c] t) :=
  blk_set (blk_set (blk_set h 0 a) 1 b) 2 c
theorem set3_grown (W : World) (N : Nat) (a b c : Value) : W.grownBy (((W.setCell ⟨N, 0, none⟩ a).setCell ⟨N, 1, none⟩ b).setCell ⟨N, 2, none⟩ c) (some N) :=
  grown_trans (grown_trans (grown_set W ⟨N, 0, none⟩ a) (grown_set _ ⟨N, 1, none⟩ b)) (grown_set _ ⟨N, 2, none⟩ c)
theorem set4_blk {W : World} {N : Nat} {x y z u : Value} {t : TypeId} (h : W.heap[N]? = some (.cells #[x, y, z, u] t)) (a b c d : Value) : ((((W.setCell ⟨N, 0, none⟩ a).setCell ⟨N, 1, none⟩ b).setCell ⟨N, 2, none⟩ c).setCell ⟨N, 3, none⟩ d).heap[N]? = some (.cells #[a, b, c, d] t) :=
  blk_set (blk_set (blk_set (blk_set h 0 a) 1 b) 2 c) 3 d
theorem set4_grown (W : World) (N : Nat) (a b c d : Value) : W.grownBy ((((W.setCell ⟨N, 0, none⟩ a).setCell ⟨N, 1, none⟩ b).setCell ⟨N, 2, none⟩ c).setCell ⟨N, 3, none⟩ d) (some N) :=
  grown_trans (set3_grown W N a b c) (grown_set _ ⟨N, 3, none⟩ d)
end Go.Proofs.YtnchjlimkgbfpaaGreatDoor

namespace Go.Proofs.YtnchjlimkgbfpaaGreatDoor
open Go.RowKit
set_option linter.unusedVariables false
set_option maxRecDepth 20000
set_option linter.unusedSimpArgs false
theorem rows_shape {w : World} {base : Nat} {e : TypeId} {sz : Nat} {v : Value} {css : List (List Value)} (h : OwnR w base e sz v css) : ∃ a n c, v = .slice a n c ∧ Hid (OwnR w base e sz (.slice a n c) css) := by
  obtain ⟨a, c, e', _, _⟩ := (Rws.own h).len
  exact ⟨a, _, c, e', by rw [← e']; exact h⟩
def WhoE (w : World) (ts : List Me) (seq next : Int) (e : Ending) (w' : World) : Prop :=
  if errV ts seq next = 0 then ∃ a n c, e = .returned (.tuple #[.agg #[.slice none 0 0, .slice a n c, .int .i64 seq, .int .i64 next], .int .i64 0]) ∧ OwnR w' w.heap.size 148 5 (.slice a n c) (ts.map meRow) ∧ Below w.heap.size w w'
  else e = .returned (.tuple #[.agg #[.slice none 0 0, .slice none 0 0, .int .i64 0, .int .i64 0], .int .i64 9]) ∧ Below w.heap.size w w'
set_option maxHeartbeats 4000000 in
set_option maxRecDepth 100000 in
theorem whole_any (ts : List Me) (seq next : Int) (va : Option Addr) (vn vc : Nat) (w : World) (hv : MetsR w (.slice va vn vc) ts) :
    Calls Tryz.prog 34 #[.agg #[.slice va vn vc, .int .i64 seq, .int .i64 next]] w (WhoE w ts seq next) := by
  obtain ⟨Post, hP⟩ : ∃ Post : Ending → World → Prop, Post = WhoE w ts seq next := ⟨_, rfl⟩
  have HP : Hid (∀ e w', WhoE w ts seq next e w' → Post e w') := fun e w' h => by rw [hP]; exact h
  rw [← hP]
  clear hP
  have HV : Hid (MetsR w (.slice va vn vc) ts) := hv
  clear hv
  obtain ⟨w0, hw0⟩ : ∃ w0, w0 = (w.alloc (.cells #[.slice va vn vc, .int .i64 seq, .int .i64 next] 39)).alloc (.cells #[.slice none 0 0, .slice none 0 0, .int .i64 0, .int .i64 0] 42) := ⟨_, rfl⟩
  have HW0 : Hid ((w.alloc (.cells #[.slice va vn vc, .int .i64 seq, .int .i64 next] 39)).alloc (.cells #[.slice none 0 0, .slice none 0 0, .int .i64 0, .int .i64 0] 42) = w0) := hw0.symm
  have U0 : Hid (Below w.heap.size w w0) := by rw [hw0]; exact up_al (up_alloc _ _) _
  have B0 : Hid (w0.heap[w.heap.size]? = some (.cells #[.slice va vn vc, .int .i64 seq, .int .i64 next] 39)) := by rw [hw0]; exact blk_up (blk_new _ _) (up_alloc _ _)
  have B2 : Hid (w0.heap[w.heap.size + 1]? = some (.cells #[.slice none 0 0, .slice none 0 0, .int .i64 0, .int .i64 0] 42)) := by
    rw [hw0]
    have := blk_new (w.alloc (.cells #[.slice va vn vc, .int .i64 seq, .int .i64 next] 39)) (.cells #[.slice none 0 0, .slice none 0 0, .int .i64 0, .int .i64 0] 42)
    rw [show (w.alloc (.cells #[.slice va vn vc, .int .i64 seq, .int .i64 next] 39)).heap.size = w.heap.size + 1 by simp] at this
    exact this
  have SZ : Hid (w0.heap.size = w.heap.size + 1 + 1) := by rw [hw0]; unfold Hid; simp
  clear hw0
  have HCK : Hid (Calls Tryz.prog 71 #[.agg #[.slice va vn vc, .int .i64 seq, .int .i64 next]] w0 fun e w' => e = .returned (.int .i64 (errV ts seq next)) ∧ Hid (Below w0.heap.size w0 w')) := check_anyE ts seq next va vn vc w0 (HV.out.up U0.out)
  have x0 := blk_cell B0.out 0 _ rfl
  have x1 := blk_cell B0.out 1 _ rfl
  have x2 := blk_cell B0.out 2 _ rfl
  go_enter Tryz.func34, Tryz.ntmps34
  go_upto_region 1 with fail
  rw [HW0.out]
  clear HW0
  generalize hN0 : w.heap.size + 1 = N1 at *
  have HN : Hid (w.heap.size < w0.heap.size ∧ N1 < w0.heap.size ∧ w.heap.size ≤ N1 ∧ w.heap.size ≠ N1) := by have := SZ.out; unfold Hid; omega
  clear SZ hN0
  rcases errV_cases ts seq next with hc | hc
  case inr =>
    rw [hc] at HCK
    have HR : Hid (errV ts seq next = 9) := hc
    clear hc
    go_wp2_with fail
    refine HCK.out.mono ?_
    rintro e w1 ⟨rfl, u1⟩
    have B2' := hid (blk_up B2.out u1.out)
    have U1 := hid (up_trans U0.out u1.out)
    clear u1
    have r0 := blk_cell B2'.out 0 _ rfl
    have r1 := blk_cell B2'.out 1 _ rfl
    have r2 := blk_cell B2'.out 2 _ rfl
    have r3 := blk_cell B2'.out 3 _ rfl
    have f0 := blk_frozen B2'.out 0
    have f1 := blk_frozen B2'.out 1
    have f2 := blk_frozen B2'.out 2
    have f3 := blk_frozen B2'.out 3
    go_wp2_with fail
    refine bodyPost_ret (results_edt rfl (.inl rfl) _ _ rfl (set4_blk B2'.out _ _ _ _)) rfl ?_
    refine HP.out _ _ ?_
    unfold WhoE
    rw [if_neg (by rw [HR.out]; decide)]
    exact ⟨rfl, U1.out.trans (below_grown (set4_grown w1 N1 _ _ _ _) U1.out.size (fun k hk => by injection hk with hk; have := HN.out; omega))⟩
  have HC0 : Hid (errV ts seq next = 0) := hc
  rw [hc] at HCK
  clear hc
  go_wp2_with fail
  refine HCK.out.mono ?_
  rintro e w1 ⟨rfl, u1⟩
  have U1 := hid (up_trans U0.out u1.out)
  replace B0 := hid (blk_up B0.out u1.out)
  replace B2 := hid (blk_up B2.out u1.out)
  replace HN : Hid (w.heap.size < w1.heap.size ∧ N1 < w1.heap.size ∧ w.heap.size ≤ N1 ∧ w.heap.size ≠ N1) := by have := HN.out; have := u1.out.size; unfold Hid; omega
  clear u1 HCK U0 x0 x1 x2
  clear w0
  have x0 := blk_cell B0.out 0 _ rfl
  have x1 := blk_cell B0.out 1 _ rfl
  have x2 := blk_cell B0.out 2 _ rfl
  have HRX : Hid (Rws 5 w1.drew (.slice va vn vc) (ts.map meRow)) := (HV.out.up U1.out).up (up_dr (Below.refl _ _))
  have HBN : Hid ((((([] : List (List Value)).length + (ts.map meRow).length) + (([] : List (List Value)).length + (ts.map meRow).length) / 4 + 192) * 56 ≤ 281474976710656) ∧ ([] : List (List Value)).length + (ts.map meRow).length ≤ maxLen) := by
    have := chk_len HC0.out
    unfold Hid maxLen
    rw [List.length_map]
    simp only [List.length_nil]
    omega
  have HON : Hid (∀ cs ∈ ts.map meRow, ∀ u ∈ cs, u.oneCell' = true) := by
    intro cs hcs u hu
    obtain ⟨s, _, rfl⟩ := List.mem_map.1 hcs
    exact meRow_one s u hu
  have HF : Hid (∀ w3, w1.drew.grownBy w3 none → w3.cell? ⟨w.heap.size, 0, none⟩ = some (.slice va vn vc) ∧ w3.cell? ⟨w.heap.size, 1, none⟩ = some (.int .i64 seq) ∧ w3.cell? ⟨w.heap.size, 2, none⟩ = some (.int .i64 next) ∧ w3.heap[N1]? = some (.cells #[.slice none 0 0, .slice none 0 0, .int .i64 0, .int .i64 0] 42) ∧ Below w.heap.size w w3) := by
    intro w3 g3
    have b0 := blk_grown (w := w1.drew) (B := w.heap.size) B0.out g3 (by simp)
    refine ⟨blk_cell b0 0 _ rfl, blk_cell b0 1 _ rfl, blk_cell b0 2 _ rfl, blk_grown (w := w1.drew) B2.out g3 (by simp), ?_⟩
    exact (U1.out.drew).trans (below_grown g3 (by have := U1.out.size; simpa using this) (fun k hk => by cases hk))
  have HS1 : Hid (w1.drew.heap.size ≤ w1.drew.heap.size) := Nat.le_refl _
  generalize hM : ts.map meRow = M at *
  have HM : Hid (ts.map meRow = M) := hM
  clear hM
  have hn1 : ¬ N1 = w.heap.size := by have := HN.out; omega
  have hn2 : ¬ w.heap.size = N1 := by have := HN.out; omega
  go_wp2_with fail
  go_region_held3 (fun w' => w'.cell? ⟨w.heap.size, 0, none⟩ = some (.slice va vn vc) ∧ w'.cell? ⟨w.heap.size, 1, none⟩ = some (.int .i64 seq) ∧ w'.cell? ⟨w.heap.size, 2, none⟩ = some (.int .i64 next)) (first | with_reducible exact ⟨x0, x1, x2⟩ | with_reducible exact ⟨z0, z1, z2⟩ | (simp [go_sem, x0, x1, x2]; done) | (simp [go_sem, z0, z1, z2, hn1, hn2]; done)) (first
    | (refine step_append_rows _ (by rfl) _ _ 37 148 _ 5 56 (by rfl) Tryz.underlying37 Tryz.info148 (by rfl) (by decide) w1.drew.heap.size (.slice none 0 0) [] (by rfl) (OwnR.nil _ _ _ _) (.slice va vn vc) M (by rfl) HRX.out HON.out HBN.out.1 HBN.out.2 HS1.out ?_; intro v3 w3 o3 g3; obtain ⟨z0, z1, z2, b3, u3⟩ := HF.out w3 g3; obtain ⟨a3, n3, c3, rfl, O3⟩ := rows_shape o3; have r0 := blk_cell b3 0 _ rfl; have r1 := blk_cell b3 1 _ rfl; have r2 := blk_cell b3 2 _ rfl; have r3 := blk_cell b3 3 _ rfl; have f0 := blk_frozen b3 0; have f1 := blk_frozen b3 1; have f2 := blk_frozen b3 2; have f3 := blk_frozen b3 3))
  all_goals
    go_wp2_with fail
    refine bodyPost_ret (results_edt rfl (.inl rfl) _ _ rfl (set4_blk b3 _ _ _ _)) rfl ?_
    refine HP.out _ _ ?_
    unfold WhoE
    rw [if_pos HC0.out]
    refine ⟨a3, n3, c3, rfl, ?_, u3.trans (below_grown (set4_grown w3 N1 _ _ _ _) u3.size (fun k hk => by injection hk with hk; have := HN.out; omega))⟩
    rw [HM.out]
    refine ((O3.out.mono ?_).far (set4_grown w3 N1 _ _ _ _) ?_)
    · have := HN.out.1; simp; omega
    · exact own_blk_ne O3.out.2 b3 (by decide)
end Go.Proofs.YtnchjlimkgbfpaaGreatDoor
