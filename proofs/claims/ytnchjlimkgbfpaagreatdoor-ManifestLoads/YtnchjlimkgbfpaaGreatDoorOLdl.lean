
import Derived.Test.YtnchjlimkgbfpaaGreatDoorODcr
import Derived.Test.YtnchjlimkgbfpaaGreatDoorE33
import Derived.Test.YtnchjlimkgbfpaaGreatDoorE37
import Derived.Test.YtnchjlimkgbfpaaGreatDoorE38
import Derived.Test.YtnchjlimkgbfpaaGreatDoorE42
import Derived.Test.YtnchjlimkgbfpaaGreatDoorRApp
import Derived.Test.YtnchjlimkgbfpaaGreatDoorHRfp
import Derived.Test.YtnchjlimkgbfpaaGreatDoorE41
namespace Go.Proofs.YtnchjlimkgbfpaaGreatDoor
open Go.RowKit
set_option linter.unusedVariables false
set_option linter.unusedSimpArgs false
set_option maxRecDepth 20000
def LoadD (w : World) (r : Vn × Int × Int) (e : Ending) (w' : World) : Prop := ∃ a n c s x, e = .returned (.tuple #[.agg #[.slice a n c, .int .i64 s, .int .i64 x], .int .i64 r.2.1, .int .i64 r.2.2]) ∧ Hid (MetsR w' (.slice a n c) r.1.1 ∧ s = r.1.2.1 ∧ x = r.1.2.2) ∧ Hid (Below w.heap.size w w')
theorem refNew_any (w : World) : Calls Tryz.prog 56 #[] w fun e w' => e = .returned (.agg #[.slice none 0 0, .int .i64 0, .int .i64 1]) ∧ Hid (Below w.heap.size w w') := by
  obtain ⟨w1, hw1⟩ : ∃ w1, w1 = w.alloc (.cells #[.slice none 0 0, .int .i64 0, .int .i64 0] 28) := ⟨_, rfl⟩
  have HW1 : Hid (w.alloc (.cells #[.slice none 0 0, .int .i64 0, .int .i64 0] 28) = w1) := hid hw1.symm
  have U1 : Hid (Below w.heap.size w w1) := by rw [hw1]; exact up_alloc _ _
  have B1 : Hid (w1.heap[w.heap.size]? = some (.cells #[.slice none 0 0, .int .i64 0, .int .i64 0] 28)) := by rw [hw1]; exact blk_new _ _
  have HN2 : Hid (w.heap.size ≤ w.heap.size) := Nat.le_refl _
  have z0 := blk_cell B1.out 0 _ rfl
  have f0 := blk_frozen B1.out 0
  have z1 := blk_cell B1.out 1 _ rfl
  have f1 := blk_frozen B1.out 1
  have z2 := blk_cell B1.out 2 _ rfl
  have f2 := blk_frozen B1.out 2
  clear hw1
  go_enter Tryz.func56, Tryz.ntmps56
  go_upto_region 1 with fail
  rw [HW1.out]
  clear HW1
  go_wp2_with fail
  refine bodyPost_ret (results_ver1 rfl (.inr rfl) _ _ rfl (set3_blk B1.out _ _ _)) rfl ?_
  exact ⟨rfl, up_set3 U1.out HN2.out⟩
theorem scan_data : ∀ (f : Nat) (b : List Int), (∀ x ∈ b, 0 ≤ x ∧ x ≤ 255) → ∀ r ∈ scanF f b, r.2.1.length ≤ 65536
  | 0, b, _, r, h => by cases h
  | f + 1, b, hb, r, h => by
    rw [scanF] at h
    split at h
    · rename_i q
      obtain ⟨n, h1, h2, h3, h4, h5, h6, h7⟩ := fget_ok b hb q
      rcases List.mem_cons.1 h with rfl | h
      · exact h6
      · exact scan_data f _ (fun x hx => hb x (List.mem_of_mem_drop hx)) r h
    · cases h
set_option maxHeartbeats 8000000 in
set_option maxRecDepth 100000 in
theorem refLoad_any (s : St) (v : Value) (w : World) (hv : StW w v s) :
    Calls Tryz.prog 20 #[v] w (LoadD w (loadP s)) := by
  obtain ⟨Post, hP⟩ : ∃ Post : Ending → World → Prop, Post = LoadD w (loadP s) := ⟨_, rfl⟩
  have HPost : Hid (∀ e w', LoadD w (loadP s) e w' → Post e w') := fun e w' h => by rw [hP]; exact h
  rw [← hP]
  clear hP
  obtain ⟨af, nf, cf, an, nn, cn, as', ns, cs', ev⟩ := hv.shape
  subst ev
  have HS : Hid (StW w (.agg #[.int .i64 s.cap, .slice af nf cf, .slice an nn cn, .slice as' ns cs', .int .i64 s.next]) s) := hv
  have HLp : Hid (loadP s = if (readP s curL).2 = 0 then (match curOf (readP s curL).1 with
    | none => (([], 0, 0), 0, 21)
    | some id => if (readP s (nameN 109 id).1).2 = 0 then (match madeM (readP s (nameN 109 id).1).1 with
      | none => (([], 0, 0), 0, 21)
      | some v => (v, id, 0))
      else (([], 0, 0), 0, (readP s (nameN 109 id).1).2)) else (([], 0, 0), 0, (readP s curL).2)) := rfl
  obtain ⟨w1, hw1⟩ : ∃ w1, w1 = (w.alloc (.cells #[.int .i64 s.cap, .slice af nf cf, .slice an nn cn, .slice as' ns cs', .int .i64 s.next] 25)).alloc (.cells #[.slice none 0 0, .int .i64 0, .int .i64 0] 28) := ⟨_, rfl⟩
  have HW1 : Hid ((w.alloc (.cells #[.int .i64 s.cap, .slice af nf cf, .slice an nn cn, .slice as' ns cs', .int .i64 s.next] 25)).alloc (.cells #[.slice none 0 0, .int .i64 0, .int .i64 0] 28) = w1) := hid hw1.symm
  have U1 : Hid (Below w.heap.size w w1) := by rw [hw1]; exact up_al (up_alloc _ _) _
  have B0 : Hid (w1.heap[w.heap.size]? = some (.cells #[.int .i64 s.cap, .slice af nf cf, .slice an nn cn, .slice as' ns cs', .int .i64 s.next] 25)) := by rw [hw1]; exact blk_up (blk_new _ _) (up_alloc _ _)
  have B4 : Hid (w1.heap[w.heap.size + 1]? = some (.cells #[.slice none 0 0, .int .i64 0, .int .i64 0] 28)) := by
    rw [hw1]
    have := blk_new (w.alloc (.cells #[.int .i64 s.cap, .slice af nf cf, .slice an nn cn, .slice as' ns cs', .int .i64 s.next] 25)) (.cells #[.slice none 0 0, .int .i64 0, .int .i64 0] 28)
    rw [show (w.alloc (.cells #[.int .i64 s.cap, .slice af nf cf, .slice an nn cn, .slice as' ns cs', .int .i64 s.next] 25)).heap.size = w.heap.size + 1 by simp] at this
    exact this
  have HN2 : Hid (w.heap.size ≤ w.heap.size + 1) := Nat.le_succ _
  have HCk := hid (refCheck_any s _ w1 (HS.out.up U1.out))
  have HCS : Hid (∀ W, Below w1.heap.size w1 W → W.cell? ⟨w.heap.size, 0, none⟩ = some (.int .i64 s.cap) ∧ W.cell? ⟨w.heap.size, 1, none⟩ = some (.slice af nf cf) ∧ W.cell? ⟨w.heap.size, 2, none⟩ = some (.slice an nn cn) ∧ W.cell? ⟨w.heap.size, 3, none⟩ = some (.slice as' ns cs') ∧ W.cell? ⟨w.heap.size, 4, none⟩ = some (.int .i64 s.next)) := fun W h => have g := blk_up B0.out h; ⟨blk_cell g 0 _ rfl, blk_cell g 1 _ rfl, blk_cell g 2 _ rfl, blk_cell g 3 _ rfl, blk_cell g 4 _ rfl⟩
  have HRd : Hid (∀ (x : List Int), OctL x → ∀ W, Below w1.heap.size w1 W → Calls Tryz.prog 53 #[.agg #[.int .i64 s.cap, .slice af nf cf, .slice an nn cn, .slice as' ns cs', .int .i64 s.next], .string (strOfNums x)] W fun e w' => ∃ a n c, e = .returned (.tuple #[.slice a n c, .int .i64 (readP s x).2]) ∧ Hid (Octs w' (.slice a n c) (readP s x).1) ∧ Hid (Below W.heap.size W w')) := by
    intro x hx W u
    refine (refRead_any s x hx _ W (HS.out.up (up_trans U1.out u))).mono ?_
    rintro e w' ⟨v', rfl, o, ho, b⟩
    obtain ⟨a4, n4, c4, e4, _⟩ := own_shape o
    subst e4
    exact ⟨a4, n4, c4, rfl, Octs.own o ho, b⟩
  obtain ⟨x0, x1, x2, x3, x4⟩ := HCS.out w1 (Below.refl _ _)
  clear hv hw1 B0
  go_enter Tryz.func20, Tryz.ntmps20
  go_upto_region 1 with fail
  rw [HW1.out]
  clear HW1
  generalize hN4 : w.heap.size + 1 = N4 at *
  clear hN4
  cases hchk : checkP s with
  | false =>
    have HR : Hid (loadP s = (([], 0, 0), 0, 9)) := by
      have hr : readP s curL = ([], 9) := by unfold readP; rw [hchk]; rfl
      rw [HLp.out, hr]
      rfl
    rw [hchk, show errOf false = 9 from rfl] at HCk
    clear hchk HLp
    go_wp2_with fail
    refine HCk.out.mono ?_
    rintro e w2 ⟨rfl, b2⟩
    have U2 : Hid (Below w.heap.size w w2) := up_trans U1.out b2
    have B42 := hid (blk_up B4.out b2)
    clear b2 HCk x0 x1 x2 x3 x4
    have z0 := blk_cell B42.out 0 _ rfl
    have f0 := blk_frozen B42.out 0
    have z1 := blk_cell B42.out 1 _ rfl
    have f1 := blk_frozen B42.out 1
    have z2 := blk_cell B42.out 2 _ rfl
    have f2 := blk_frozen B42.out 2
    go_wp2_with fail
    refine bodyPost_ret (results_verT rfl (.inr rfl) _ _ rfl (set3_blk B42.out _ _ _)) rfl ?_
    refine HPost.out _ _ ?_
    rw [HR.out]
    exact ⟨_, _, _, _, _, rfl, ⟨Rws.nil _ _, rfl, rfl⟩, up_set3 U2.out HN2.out⟩
  | true =>
    rw [hchk, show errOf true = 0 from rfl] at HCk
    clear hchk
    go_wp2_with fail
    refine HCk.out.mono ?_
    rintro e w2 ⟨rfl, b2⟩
    have V2 : Hid (Below w1.heap.size w1 w2) := b2
    clear b2 HCk x0 x1 x2 x3 x4
    obtain ⟨x0, x1, x2, x3, x4⟩ := HCS.out w2 V2.out
    have HRc : Hid (Calls Tryz.prog 53 #[.agg #[.int .i64 s.cap, .slice af nf cf, .slice an nn cn, .slice as' ns cs', .int .i64 s.next], .string { data := #[67, 85, 82, 82, 69, 78, 84] }] w2 fun e w' => ∃ a n c, e = .returned (.tuple #[.slice a n c, .int .i64 (readP s curL).2]) ∧ Hid (Octs w' (.slice a n c) (readP s curL).1) ∧ Hid (Below w2.heap.size w2 w')) := HRd.out curL cur_oct w2 V2.out
    obtain ⟨q0, hq0⟩ : ∃ q0, q0 = readP s curL := ⟨_, rfl⟩
    rw [← hq0] at HRc HLp
    clear hq0
    obtain ⟨bb, y1⟩ := q0
    simp only at HRc HLp
    go_wp2_with fail
    refine HRc.out.mono ?_
    rintro e w3 ⟨a3, n3, c3, rfl, O3, b3⟩
    have V3 : Hid (Below w1.heap.size w1 w3) := up_trans V2.out b3.out
    clear HRc b3 x0 x1 x2 x3 x4 V2
    by_cases e1 : y1 = 0
    case neg =>
      have e1b : (y1 != 0) = true := by simpa using e1
      have HR : Hid (loadP s = (([], 0, 0), 0, y1)) := by rw [HLp.out, if_neg e1]; rfl
      have B43 := hid (blk_up B4.out V3.out)
      have U3 : Hid (Below w.heap.size w w3) := up_trans U1.out V3.out
      clear HLp e1
      have z0 := blk_cell B43.out 0 _ rfl
      have f0 := blk_frozen B43.out 0
      have z1 := blk_cell B43.out 1 _ rfl
      have f1 := blk_frozen B43.out 1
      have z2 := blk_cell B43.out 2 _ rfl
      have f2 := blk_frozen B43.out 2
      go_wp2_with fail
      refine bodyPost_ret (results_verT rfl (.inr rfl) _ _ rfl (set3_blk B43.out _ _ _)) rfl ?_
      refine HPost.out _ _ ?_
      rw [HR.out]
      exact ⟨_, _, _, _, _, rfl, ⟨Rws.nil _ _, rfl, rfl⟩, up_set3 U3.out HN2.out⟩
    subst e1
    rw [if_pos rfl] at HLp
    have HPn := hid (points_any bb (.slice a3 n3 c3) w3 O3.out)
    cases hcu : curOf bb with
    | none =>
      rw [hcu] at HPn HLp
      simp only at HLp
      have HR : Hid (loadP s = (([], 0, 0), 0, 21)) := HLp
      have HPn2 : Hid (Calls Tryz.prog 54 #[.slice a3 n3 c3] w3 fun e w' => e = .returned (.tuple #[.int .i64 0, .bool false]) ∧ Hid (Below w3.heap.size w3 w')) := HPn.out
      clear hcu HLp HPn
      go_wp2_with fail
      refine HPn2.out.mono ?_
      rintro e w4 ⟨rfl, b4⟩
      have V4 : Hid (Below w1.heap.size w1 w4) := up_trans V3.out b4.out
      have B44 := hid (blk_up B4.out V4.out)
      have U4 : Hid (Below w.heap.size w w4) := up_trans U1.out V4.out
      clear b4 HPn2
      have z0 := blk_cell B44.out 0 _ rfl
      have f0 := blk_frozen B44.out 0
      have z1 := blk_cell B44.out 1 _ rfl
      have f1 := blk_frozen B44.out 1
      have z2 := blk_cell B44.out 2 _ rfl
      have f2 := blk_frozen B44.out 2
      go_wp2_with fail
      refine bodyPost_ret (results_verT rfl (.inr rfl) _ _ rfl (set3_blk B44.out _ _ _)) rfl ?_
      refine HPost.out _ _ ?_
      rw [HR.out]
      exact ⟨_, _, _, _, _, rfl, ⟨Rws.nil _ _, rfl, rfl⟩, up_set3 U4.out HN2.out⟩
    | some id =>
      have hid2 := cur_range hcu
      rw [hcu] at HPn HLp
      simp only at HLp
      have HPn2 : Hid (Calls Tryz.prog 54 #[.slice a3 n3 c3] w3 fun e w' => e = .returned (.tuple #[.int .i64 id, .bool true]) ∧ Hid (Below w3.heap.size w3 w')) := HPn.out
      clear hcu HPn
      obtain ⟨hn1, hn2, hn3⟩ := nameN_octO hid2
      rw [hn1] at HLp
      simp only at HLp
      obtain ⟨M, hM⟩ : ∃ M : List Int, M = 109 :: digs id.toNat := ⟨_, rfl⟩
      have HNa : Hid (∀ W : World, Calls Tryz.prog 41 #[.int .u8 109, .int .i64 id] W fun e w' => e = .returned (.tuple #[.string (strOfNums M), .int .i64 0]) ∧ Below W.heap.size W w') := fun W => refNameX 109 id (strOfNums M) 0 (by rw [hn1, hM]) (by omega) W
      rw [← hM] at HLp hn2
      have HMo := hid hn2
      clear hM hn1 hn2 hn3 hid2
      go_wp2_with fail
      refine HPn2.out.mono ?_
      rintro e w4 ⟨rfl, b4⟩
      have V4 : Hid (Below w1.heap.size w1 w4) := up_trans V3.out b4.out
      clear b4 HPn2
      go_wp2_with fail
      refine (HNa.out w4).mono ?_
      rintro e w5 ⟨rfl, b5⟩
      have V5 : Hid (Below w1.heap.size w1 w5) := up_trans V4.out b5
      clear b5 HNa
      obtain ⟨x0, x1, x2, x3, x4⟩ := HCS.out w5 V5.out
      have HRm := hid (HRd.out M HMo.out w5 V5.out)
      have HRl := hid (read_len s M)
      obtain ⟨q1, hq1⟩ : ∃ q1, q1 = readP s M := ⟨_, rfl⟩
      rw [← hq1] at HRm HLp HRl
      clear hq1
      obtain ⟨b, y2⟩ := q1
      simp only at HRm HLp HRl
      go_wp2_with fail
      refine HRm.out.mono ?_
      rintro e w6 ⟨a6, n6, c6, rfl, O6, b6⟩
      have V6 : Hid (Below w1.heap.size w1 w6) := up_trans V5.out b6.out
      clear HRm b6 x0 x1 x2 x3 x4 V5 V4 V3 O3 HRd
      by_cases e2 : y2 = 0
      case neg =>
        have e2b : (y2 != 0) = true := by simpa using e2
        have HR : Hid (loadP s = (([], 0, 0), 0, y2)) := by rw [HLp.out, if_neg e2]; rfl
        have B46 := hid (blk_up B4.out V6.out)
        have U6 : Hid (Below w.heap.size w w6) := up_trans U1.out V6.out
        clear HLp e2
        have z0 := blk_cell B46.out 0 _ rfl
        have f0 := blk_frozen B46.out 0
        have z1 := blk_cell B46.out 1 _ rfl
        have f1 := blk_frozen B46.out 1
        have z2 := blk_cell B46.out 2 _ rfl
        have f2 := blk_frozen B46.out 2
        go_wp2_with fail
        refine bodyPost_ret (results_verT rfl (.inr rfl) _ _ rfl (set3_blk B46.out _ _ _)) rfl ?_
        refine HPost.out _ _ ?_
        rw [HR.out]
        exact ⟨_, _, _, _, _, rfl, ⟨Rws.nil _ _, rfl, rfl⟩, up_set3 U6.out HN2.out⟩
      subst e2
      rw [if_pos rfl] at HLp
      have HSc := hid (rscan_any b (.slice a6 n6 c6) w6 O6.out (by have := HRl.out; omega))
      go_wp2_with fail
      refine HSc.out.mono ?_
      rintro e w7 ⟨a7, n7, c7, xs, rfl, HXO, b7⟩
      have HXs := hid HXO.out.1
      have R7 : Hid (Rws 2 w7 (.slice a7 n7 c7) (xs.map grow)) := Rws.own HXO.out.2.1
      have HX : Hid (∀ x ∈ xs, Octs w7 x.1 x.2.2.1) := fun x hx => (HXO.out.2.2 x hx).1.1
      have V7 : Hid (Below w1.heap.size w1 w7) := up_trans V6.out b7.out
      obtain ⟨a7', c7', e7, -, -⟩ := R7.out.len
      rw [List.length_map] at e7
      simp only [Value.slice.injEq] at e7
      obtain ⟨rfl, rfl, rfl⟩ := e7
      have HNl : Hid (xs.length = (scanOf b).length) := by unfold Hid; rw [← HXs.out, List.length_map]
      have hnb : xs.length ≤ 16777216 := by
        have h1 := (scanF_len (b.length + 1) b O6.out.1).2
        have h2 := HNl.out
        unfold scanOf at h2
        have h3 := HRl.out
        omega
      have hnb63 : (xs.length : Int) ≤ 9223372036854775807 := by omega
      have U7 : Hid (Below w.heap.size w w7) := up_trans U1.out V7.out
      have B47 := hid (blk_up B4.out V7.out)
      have HDl : Hid (∀ r ∈ scanOf b, r.2.1.length ≤ 140737488355328) := fun r hr => by have := scan_data (b.length + 1) b O6.out.1 r hr; omega
      clear HXO b7 HSc O6 V6 HCS HRl
      go_wp2_with fail
      refine (refNew_any w7).mono ?_
      rintro e w8 ⟨rfl, b8⟩
      obtain ⟨w9, hw9⟩ : ∃ w9, w9 = w8.alloc (.cells #[.slice none 0 0, .int .i64 0, .int .i64 1] 28) := ⟨_, rfl⟩
      have HW9 : Hid (w8.alloc (.cells #[.slice none 0 0, .int .i64 0, .int .i64 1] 28) = w9) := hid hw9.symm
      have V9 : Hid (Below w7.heap.size w7 w9) := by rw [hw9]; exact up_al b8.out _
      have B9 : Hid (w9.heap[w8.heap.size]? = some (.cells #[.slice none 0 0, .int .i64 0, .int .i64 1] 28)) := by rw [hw9]; exact blk_new _ _
      have HN8 : Hid (w7.heap.size ≤ w8.heap.size) := b8.out.size
      have HN47 : Hid (N4 < w7.heap.size) := blk_lt B47.out
      clear hw9 b8
      go_upto_region 16 with fail
      rw [HW9.out]
      clear HW9
      generalize w8.heap.size = NB at *
      go_wp2_with fail
      go_loopw [17] (fun i wr => ∃ (k : Nat) (u : Vn) (a : Option Addr) (n c : Nat), k ≤ xs.length ∧ i = .int .i64 k ∧ Hid (foldM ((scanOf b).take k) ([], 0, 1) = some u) ∧ Hid (wr.heap[NB]? = some (.cells #[.slice a n c, .int .i64 u.2.1, .int .i64 u.2.2] 28)) ∧ Hid (OwnR wr w7.heap.size 139 5 (.slice a n c) (u.1.map meRow)) ∧ Hid (Below w7.heap.size w7 wr)) (fun i _ => xs.length - (intOf i).toNat)
      case atStart => exact ⟨0, ([], 0, 1), none, 0, 0, Nat.zero_le _, rfl, rfl, B9.out, OwnR.nil _ _ _ _, V9.out⟩
      case round =>
        clear B9 V9
        obtain ⟨k, u, a, n, c, hk, rfl, HFo, HB, HO, HU⟩ := hrel
        by_cases hlt : k < xs.length
        · have hlt' : (k : Int) < (xs.length : Int) := by omega
          obtain ⟨x, hx⟩ : ∃ x, xs[k]? = some x := ⟨xs[k], List.getElem?_eq_getElem hlt⟩
          have hxm : x ∈ xs := List.mem_of_getElem? hx
          have hsc : (scanOf b)[k]? = some x.2 := by rw [← HXs.out, List.getElem?_map, hx]; rfl
          have hrow : (xs.map grow).getD k [] = grow x := by simp [List.getD, hx]
          obtain ⟨br, orr, cr, er, _, _, hcr⟩ := (R7.out.up HU.out).at k (by rw [List.length_map]; exact hlt)
          rw [List.length_map] at er
          simp at er
          obtain ⟨rfl, rfl⟩ := er
          rw [hrow] at hcr
          have d0 := hcr 0 _ rfl
          have d1 := hcr 1 _ rfl
          simp only [Nat.add_zero] at d0 d1
          have HOx := hid ((HX.out x hxm).up HU.out)
          have HGo := hid (fold_goes HFo.out hsc)
          obtain ⟨vx, kk, dd, nx⟩ := x
          simp only at d0 d1 HOx HGo
          obtain ⟨ax, cx, ex, -⟩ := HOx.out.slice
          subst ex
          have HD0 : Hid (∀ W, Below wr.heap.size wr W → W.cell? ⟨br, orr + k * 2, none⟩ = some (.int .i64 kk)) := fun W h => (h.cell (p := ⟨br, orr + k * 2, none⟩) (World.block_lt_of_cell? wr _ d0)).trans d0
          have hdl : dd.length ≤ 140737488355328 := HDl.out (kk, dd, nx) (List.mem_of_getElem? hsc)
          have HDc := hid (refDecE_any dd ax cx wr HOx.out hdl)
          clear hx hxm hsc hrow hcr HOx hdl
          go_wp2_with fail
          refine HDc.out.mono ?_
          rintro e wa ⟨da, dn, dc, aa, en, ec, sq2, nx2, y3, rfl, hok, hbad, ba⟩
          have HOk := hid hok.out
          have HBd := hid hbad.out
          obtain ⟨wb, hwb⟩ : ∃ wb, wb = wa.alloc (.cells #[.slice da dn dc, .slice aa en ec, .int .i64 sq2, .int .i64 nx2] 31) := ⟨_, rfl⟩
          have HWb : Hid (wa.alloc (.cells #[.slice da dn dc, .slice aa en ec, .int .i64 sq2, .int .i64 nx2] 31) = wb) := hid hwb.symm
          have Vab : Hid (Below wa.heap.size wa wb) := by rw [hwb]; exact up_alloc _ _
          have Vb : Hid (Below wr.heap.size wr wb) := up_trans ba.out Vab.out
          have Bb : Hid (wb.heap[wa.heap.size]? = some (.cells #[.slice da dn dc, .slice aa en ec, .int .i64 sq2, .int .i64 nx2] 31)) := by rw [hwb]; exact blk_new _ _
          have HUI : Hid (∀ v l, IntsR wa v l → IntsR wb v l) := fun v l h => h.up Vab.out
          have HUM : Hid (∀ v l, MetsR wa v l → MetsR wb v l) := fun v l h => h.up Vab.out
          clear hwb HDc hok hbad d0 d1 ba Vab
          go_upto_region 20 with fail
          rw [HWb.out]
          clear HWb
          generalize wa.heap.size = ND at *
          have d0 := HD0.out wb Vb.out
          have HUb : Hid (Below w7.heap.size w7 wb) := up_trans HU.out Vb.out
          have Ub : Hid (Below w.heap.size w wb) := up_trans U7.out HUb.out
          have B4b := hid (blk_up B47.out HUb.out)
          have HFalse : Hid (stepM u kk dd = none → loadP s = (([], 0, 0), 0, 21)) := by
            intro q
            have hf := fold_none (HGo.out.trans q)
            rw [HLp.out]
            unfold madeM
            rw [hf]
            split
            · rename_i q2
              split at q2 <;> first | rfl | cases q2
            · rename_i q2
              split at q2 <;> cases q2
          have HSt : Hid (stepM u kk dd = if kk = 5 then (match decE dd with
            | .error _ => none
            | .ok (sq, nx, dr, ad) => if (appM u.1 u.2.1 u.2.2 dr ad sq nx).2 = 0 then some ((appM u.1 u.2.1 u.2.2 dr ad sq nx).1, sq, nx) else none) else none) := rfl
          by_cases k5 : kk = 5
          case neg =>
            have k5b : (kk != 5) = true := by simpa using k5
            have HR := hid (HFalse.out (by rw [HSt.out, if_neg k5]))
            clear k5 HSt HFalse HOk HBd HGo HFo
            have z0 := blk_cell B4b.out 0 _ rfl
            have f0 := blk_frozen B4b.out 0
            have z1 := blk_cell B4b.out 1 _ rfl
            have f1 := blk_frozen B4b.out 1
            have z2 := blk_cell B4b.out 2 _ rfl
            have f2 := blk_frozen B4b.out 2
            go_wp2_with fail
            refine bodyPost_ret (results_verT rfl (.inr rfl) _ _ rfl (set3_blk B4b.out _ _ _)) rfl ?_
            refine HPost.out _ _ ?_
            rw [HR.out]
            exact ⟨_, _, _, _, _, rfl, ⟨Rws.nil _ _, rfl, rfl⟩, up_set3 Ub.out HN2.out⟩
          subst k5
          rw [if_pos rfl] at HSt
          have k5b : ((5 : Int) != 5) = false := rfl
          cases hde : decE dd with
          | error q =>
            have hy3 := HBd.out q hde
            have y3b : (y3 != 0) = true := by simpa using hy3
            have HR := hid (HFalse.out (by rw [HSt.out, hde]))
            clear hy3 hde HSt HFalse HOk HBd HGo HFo
            have z0 := blk_cell B4b.out 0 _ rfl
            have f0 := blk_frozen B4b.out 0
            have z1 := blk_cell B4b.out 1 _ rfl
            have f1 := blk_frozen B4b.out 1
            have z2 := blk_cell B4b.out 2 _ rfl
            have f2 := blk_frozen B4b.out 2
            go_wp2_with fail
            refine bodyPost_ret (results_verT rfl (.inr rfl) _ _ rfl (set3_blk B4b.out _ _ _)) rfl ?_
            refine HPost.out _ _ ?_
            rw [HR.out]
            exact ⟨_, _, _, _, _, rfl, ⟨Rws.nil _ _, rfl, rfl⟩, up_set3 Ub.out HN2.out⟩
          | ok vv =>
            obtain ⟨sqq, nxx, dr, ad⟩ := vv
            obtain ⟨hy3, hs2, hx2, hI, hMm⟩ := HOk.out _ hde
            simp only at hs2 hx2 hI hMm
            subst hy3 hs2 hx2
            rw [hde] at HSt
            simp only at HSt
            have HI : Hid (IntsR wb (.slice da dn dc) dr) := HUI.out _ _ hI
            have HMm : Hid (MetsR wb (.slice aa en ec) ad) := HUM.out _ _ hMm
            have HBb : Hid (wb.heap[NB]? = some (.cells #[.slice a n c, .int .i64 u.2.1, .int .i64 u.2.2] 28)) := blk_up HB.out Vb.out
            have HOb : Hid (OwnR wb w7.heap.size 139 5 (.slice a n c) (u.1.map meRow)) := HO.out.up Vb.out
            have HAp := hid (refApply_any u.1 u.2.1 u.2.2 dr ad sq2 nx2 a da aa n c dn dc en ec wb (Rws.own HOb.out) HI.out HMm.out)
            clear hde hI hMm HOk HBd HD0
            obtain ⟨r, hr⟩ : ∃ r, r = appM u.1 u.2.1 u.2.2 dr ad sq2 nx2 := ⟨_, rfl⟩
            rw [← hr] at HAp HSt
            clear hr
            obtain ⟨rl, ry⟩ := r
            simp only at HSt
            have q0 := blk_cell HBb.out 0 _ rfl
            have q1 := blk_cell HBb.out 1 _ rfl
            have q2 := blk_cell HBb.out 2 _ rfl
            have p0 := blk_cell Bb.out 0 _ rfl
            have p1 := blk_cell Bb.out 1 _ rfl
            have p2 := blk_cell Bb.out 2 _ rfl
            have p3 := blk_cell Bb.out 3 _ rfl
            by_cases hry : ry = 0
            case neg =>
              have hryb : (ry != 0) = true := by simpa using hry
              have HR := hid (HFalse.out (by rw [HSt.out, if_neg hry]))
              have HAp2 : Hid (Calls Tryz.prog 28 #[.agg #[.slice a n c, .int .i64 u.2.1, .int .i64 u.2.2], .agg #[.slice da dn dc, .slice aa en ec, .int .i64 sq2, .int .i64 nx2]] wb fun e w' => ∃ a1 l1 c1, e = .returned (.tuple #[.agg #[.slice a1 l1 c1, .int .i64 0, .int .i64 0], .int .i64 ry]) ∧ Hid (Below wb.heap.size wb w')) := by
                refine HAp.out.mono ?_
                rintro e w' ⟨a1, l1, c1, he, ho, hb⟩
                simp only [if_neg hry] at he
                exact ⟨a1, l1, c1, he, hb⟩
              clear hry HSt HFalse HGo HFo HAp
              go_wp2_with fail
              refine HAp2.out.mono ?_
              rintro e wc ⟨a1, l1, c1, rfl, bc⟩
              have Uc : Hid (Below w.heap.size w (wc.alloc (.cells #[.slice a1 l1 c1, .int .i64 0, .int .i64 0] 28))) := up_al (up_trans Ub.out bc.out) _
              have B4c : Hid ((wc.alloc (.cells #[.slice a1 l1 c1, .int .i64 0, .int .i64 0] 28)).heap[N4]? = some (.cells #[.slice none 0 0, .int .i64 0, .int .i64 0] 28)) := blk_up (blk_up B4b.out bc.out) (up_alloc _ _)
              clear bc HAp2 q0 q1 q2 p0 p1 p2 p3
              have z0 := blk_cell B4c.out 0 _ rfl
              have f0 := blk_frozen B4c.out 0
              have z1 := blk_cell B4c.out 1 _ rfl
              have f1 := blk_frozen B4c.out 1
              have z2 := blk_cell B4c.out 2 _ rfl
              have f2 := blk_frozen B4c.out 2
              go_wp2_with fail
              refine bodyPost_ret (results_verT rfl (.inr rfl) _ _ rfl (set3_blk B4c.out _ _ _)) rfl ?_
              refine HPost.out _ _ ?_
              rw [HR.out]
              exact ⟨_, _, _, _, _, rfl, ⟨Rws.nil _ _, rfl, rfl⟩, up_set3 Uc.out HN2.out⟩
            subst hry
            rw [if_pos rfl] at HSt
            rw [HSt.out] at HGo
            have HAp2 : Hid (Calls Tryz.prog 28 #[.agg #[.slice a n c, .int .i64 u.2.1, .int .i64 u.2.2], .agg #[.slice da dn dc, .slice aa en ec, .int .i64 sq2, .int .i64 nx2]] wb fun e w' => ∃ a1 l1 c1, e = .returned (.tuple #[.agg #[.slice a1 l1 c1, .int .i64 sq2, .int .i64 nx2], .int .i64 0]) ∧ Hid (OwnR w' wb.heap.size 139 5 (.slice a1 l1 c1) (rl.map meRow)) ∧ Hid (Below wb.heap.size wb w')) := by
              refine HAp.out.mono ?_
              rintro e w' ⟨a1, l1, c1, he, ho, hb⟩
              exact ⟨a1, l1, c1, he, ho, hb⟩
            clear HSt HFalse HFo HAp
            go_wp2_with fail
            refine HAp2.out.mono ?_
            rintro e wc ⟨a1, l1, c1, rfl, OC, bc⟩
            obtain ⟨wd, hwd⟩ : ∃ wd, wd = wc.alloc (.cells #[.slice a1 l1 c1, .int .i64 sq2, .int .i64 nx2] 28) := ⟨_, rfl⟩
            have HWd : Hid (wc.alloc (.cells #[.slice a1 l1 c1, .int .i64 sq2, .int .i64 nx2] 28) = wd) := hid hwd.symm
            have Vcd : Hid (Below wc.heap.size wc wd) := by rw [hwd]; exact up_alloc _ _
            have Bd : Hid (wd.heap[wc.heap.size]? = some (.cells #[.slice a1 l1 c1, .int .i64 sq2, .int .i64 nx2] 28)) := by rw [hwd]; exact blk_new _ _
            have HBd2 : Hid (wd.heap[NB]? = some (.cells #[.slice a n c, .int .i64 u.2.1, .int .i64 u.2.2] 28)) := blk_up HBb.out (up_trans bc.out Vcd.out)
            have OD : Hid (OwnR wd w7.heap.size 139 5 (.slice a1 l1 c1) (rl.map meRow)) := (OC.out.up Vcd.out).mono HUb.out.size
            have HUd : Hid (Below w7.heap.size w7 wd) := up_trans HUb.out (up_trans bc.out Vcd.out)
            clear hwd HAp2 OC bc q0 q1 q2 p0 p1 p2 p3 d0
            go_upto_region 23 with fail
            rw [HWd.out]
            clear HWd
            have q0 := blk_cell HBd2.out 0 _ rfl
            have q1 := blk_cell HBd2.out 1 _ rfl
            have q2 := blk_cell HBd2.out 2 _ rfl
            have f0 := blk_frozen HBd2.out 0
            have f1 := blk_frozen HBd2.out 1
            have f2 := blk_frozen HBd2.out 2
            have p0 := blk_cell Bd.out 0 _ rfl
            have p1 := blk_cell Bd.out 1 _ rfl
            have p2 := blk_cell Bd.out 2 _ rfl
            go_wp2_with fail
            refine ⟨⟨k + 1, (rl, sq2, nx2), a1, l1, c1, by omega, by go_num, HGo, ?_, ?_, ?_⟩, by simp [intOf]; omega⟩
            · exact set3_blk HBd2.out _ _ _
            · exact OD.out.far (set3_grown wd NB _ _ _) (own_blk_ne OD.out.2 HBd2.out (by decide))
            · exact up_set3 HUd.out HN8.out
        · have hlt' : ¬ (k : Int) < (xs.length : Int) := by omega
          obtain rfl : k = xs.length := by omega
          have HF2 : Hid (foldM (scanOf b) ([], 0, 1) = some u) := by
            have := HFo.out
            rw [HNl.out, List.take_length] at this
            exact this
          have B4r := hid (blk_up B47.out HU.out)
          have Ur : Hid (Below w.heap.size w wr) := up_trans U7.out HU.out
          clear HFo
          by_cases c2 : xs.length = 0
          · have HR : Hid (loadP s = (([], 0, 0), 0, 21)) := by
              rw [HLp.out]
              unfold madeM
              have : scanOf b = [] := List.length_eq_zero_iff.1 (by rw [← HNl.out]; exact c2)
              rw [if_pos this]
              rfl
            have c2b : (((xs.length : Nat) : Int) == 0) = true := by simpa using c2
            have c2c : ((xs.length : Nat) : Int) = 0 := by omega
            clear HLp HF2 HNl c2
            have z0 := blk_cell B4r.out 0 _ rfl
            have f0 := blk_frozen B4r.out 0
            have z1 := blk_cell B4r.out 1 _ rfl
            have f1 := blk_frozen B4r.out 1
            have z2 := blk_cell B4r.out 2 _ rfl
            have f2 := blk_frozen B4r.out 2
            go_wp2_with fail
            refine bodyPost_ret (results_verT rfl (.inr rfl) _ _ rfl (set3_blk B4r.out _ _ _)) rfl ?_
            refine HPost.out _ _ ?_
            rw [HR.out]
            exact ⟨_, _, _, _, _, rfl, ⟨Rws.nil _ _, rfl, rfl⟩, up_set3 Ur.out HN2.out⟩
          · have HR : Hid (loadP s = (u, id, 0)) := by
              rw [HLp.out]
              unfold madeM
              have : ¬ scanOf b = [] := fun q => c2 (by rw [HNl.out, q]; rfl)
              rw [if_neg this, HF2.out]
              rfl
            have c2b : (((xs.length : Nat) : Int) == 0) = false := by rw [beq_eq_false_iff_ne]; omega
            clear HLp HF2 HNl c2
            have q0 := blk_cell HB.out 0 _ rfl
            have q1 := blk_cell HB.out 1 _ rfl
            have q2 := blk_cell HB.out 2 _ rfl
            have z0 := blk_cell B4r.out 0 _ rfl
            have f0 := blk_frozen B4r.out 0
            have z1 := blk_cell B4r.out 1 _ rfl
            have f1 := blk_frozen B4r.out 1
            have z2 := blk_cell B4r.out 2 _ rfl
            have f2 := blk_frozen B4r.out 2
            go_wp2_with fail
            refine bodyPost_ret (results_verT rfl (.inr rfl) _ _ rfl (set3_blk B4r.out _ _ _)) rfl ?_
            refine HPost.out _ _ ?_
            rw [HR.out]
            refine ⟨a, n, c, u.2.1, u.2.2, rfl, ⟨?_, rfl, rfl⟩, up_set3 Ur.out HN2.out⟩
            exact Rws.own (HO.out.far (set3_grown wr N4 _ _ _) (own_blk_ne HO.out.2 B4r.out (by decide)))
end Go.Proofs.YtnchjlimkgbfpaaGreatDoor
