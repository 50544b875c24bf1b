/- The texts OMade, OCur, in this order. -/
import Derived.Test.YtnchjlimkgbfpaaGreatDoorJ44
import Derived.Test.YtnchjlimkgbfpaaGreatDoorJ36
import Derived.Test.YtnchjlimkgbfpaaGreatDoorJ45
import Derived.Test.YtnchjlimkgbfpaaGreatDoorJ15
import Derived.Test.YtnchjlimkgbfpaaGreatDoorJ04
import Derived.Test.YtnchjlimkgbfpaaGreatDoorJ31
import Derived.Test.YtnchjlimkgbfpaaGreatDoorJ26
import Derived.Test.YtnchjlimkgbfpaaGreatDoorJ02
import Derived.Test.YtnchjlimkgbfpaaGreatDoorJ23
import Derived.Test.YtnchjlimkgbfpaaGreatDoorVAgain

namespace Go.Proofs.YtnchjlimkgbfpaaGreatDoor
open Go.RowKit
set_option linter.unusedVariables false
set_option linter.unusedSimpArgs false
set_option maxRecDepth 20000
theorem foldM_append : ∀ (l r : List (Int × List Int × Nat)) (v : Vn), foldM (l ++ r) v = (foldM l v).bind (foldM r)
  | [], r, v => rfl
  | x :: l, r, v => by
    rw [List.cons_append, foldM, foldM]
    cases stepM v x.1 x.2.1 with
    | none => rfl
    | some u => exact foldM_append l r u
theorem fold_goes {l : List (Int × List Int × Nat)} {k : Nat} {v : Vn} {r : Int × List Int × Nat} {v0 : Vn} (h : foldM (l.take k) v0 = some v) (hr : l[k]? = some r) : foldM (l.take (k + 1)) v0 = stepM v r.1 r.2.1 := by
  rw [List.take_add_one, hr, foldM_append, h]
  show foldM [r] v = _
  simp only [foldM]
  cases stepM v r.1 r.2.1 <;> rfl
theorem fold_none {l : List (Int × List Int × Nat)} {k : Nat} {v0 : Vn} (h : foldM (l.take k) v0 = none) : foldM l v0 = none := by
  have := foldM_append (l.take k) (l.drop k) v0
  rw [List.take_append_drop, h] at this
  exact this
theorem sum_ge : ∀ (l : List (Int × List Int × Int)) (i : Nat), ((l.getD i (0, [], 0)).2.1.length : Int) ≤ usedOf l ∧ 0 ≤ usedOf l
  | [], i => by simp [usedOf]
  | x :: l, 0 => by
    have := sum_ge l 0
    simp only [usedOf, List.map_cons, List.sum_cons, List.getD_cons_zero] at this ⊢
    omega
  | x :: l, i + 1 => by
    have := sum_ge l i
    simp only [usedOf, List.map_cons, List.sum_cons, List.getD_cons_succ] at this ⊢
    omega
theorem read_len (s : St) (x : List Int) : (readP s x).1.length ≤ 16777216 := by
  unfold readP
  cases h : checkP s with
  | false => simp
  | true =>
    have g := check_good h
    have h1 := g.used
    have h2 := g.cap1
    simp only [if_true]
    split
    · unfold fileD
      have := (sum_ge s.files (idxF s x)).1
      simp only
      omega
    · simp
def madeP (s : St) (id : Int) : Option Vn × Int :=
  if (readP s (nameN 109 id).1).2 = 0 then (match madeM (readP s (nameN 109 id).1).1 with
    | none => (none, 21)
    | some v => (some v, 0))
  else (none, (readP s (nameN 109 id).1).2)
def MadE (w : World) (r : Option Vn × Int) (e : Ending) (w' : World) : Prop := ∃ a n c s x, e = .returned (.tuple #[.agg #[.slice a n c, .int .i64 s, .int .i64 x], .int .i64 r.2]) ∧ Hid (VerP w' w.heap.size r.1 a n c s x) ∧ Hid (Below w.heap.size w w')
set_option maxHeartbeats 4000000 in
theorem made_any (s : St) (v : Value) (id : Int) (hi : idOk id = true) (w : World) (hv : StW w v s) (hl : s.names.length + s.safe.length ≤ 9223372036854775807) (ht : Tab w) :
    Calls Tryz.prog 52 #[v, .int .i64 id] w (MadE w (madeP s id)) := by
  obtain ⟨Post, hP⟩ : ∃ Post : Ending → World → Prop, Post = MadE w (madeP s id) := ⟨_, rfl⟩
  have HPost : Hid (∀ e w', MadE w (madeP s id) e w' → Post e w') := fun e w' h => by rw [hP]; exact h
  rw [← hP]
  clear hP
  obtain ⟨af, nf, cf, an, nn, cn, as', ns, cs', ev⟩ := hv.shape
  subst ev
  have HS : Hid (StW w (.agg #[.int .i64 s.cap, .slice af nf cf, .slice an nn cn, .slice as' ns cs', .int .i64 s.next]) s) := hv
  have HT : Hid (Tab w) := ht
  obtain ⟨w0, hw0⟩ : ∃ w0, w0 = (w.alloc (.cells #[.int .i64 s.cap, .slice af nf cf, .slice an nn cn, .slice as' ns cs', .int .i64 s.next] 35)).alloc (.cells #[.slice none 0 0, .int .i64 0, .int .i64 0] 39) := ⟨_, rfl⟩
  have HW0 : Hid ((w.alloc (.cells #[.int .i64 s.cap, .slice af nf cf, .slice an nn cn, .slice as' ns cs', .int .i64 s.next] 35)).alloc (.cells #[.slice none 0 0, .int .i64 0, .int .i64 0] 39) = w0) := hid hw0.symm
  have U0 : Hid (Below w.heap.size w w0) := by rw [hw0]; exact up_al (up_alloc _ _) _
  have sz1 : ∀ (W : World) (o : Obj), (W.alloc o).heap.size = W.heap.size + 1 := fun W o => by simp
  have B0 : Hid (w0.heap[w.heap.size]? = some (.cells #[.int .i64 s.cap, .slice af nf cf, .slice an nn cn, .slice as' ns cs', .int .i64 s.next] 35)) := by rw [hw0]; exact blk_up (blk_new _ _) (up_alloc _ _)
  have B4 : Hid (w0.heap[w.heap.size + 1]? = some (.cells #[.slice none 0 0, .int .i64 0, .int .i64 0] 39)) := by
    rw [hw0, ← sz1 w (.cells #[.int .i64 s.cap, .slice af nf cf, .slice an nn cn, .slice as' ns cs', .int .i64 s.next] 35)]
    exact blk_new _ _
  obtain ⟨hn1, hn2, hn3⟩ : nameN 109 id = (109 :: digs id.toNat, 0) ∧ (∀ y ∈ (109 :: digs id.toNat : List Int), 0 ≤ y ∧ y ≤ 255) ∧ (109 :: digs id.toNat : List Int).length ≤ 11 := by
    have h3 : 1 ≤ id ∧ id ≤ 2147483647 := by simpa [idOk] using hi
    have hl := digs_len 10 id.toNat (by omega)
    refine ⟨by unfold nameN; rw [hi]; rfl, fun y hy => ?_, by simp only [List.length_cons]; omega⟩
    rcases List.mem_cons.1 hy with rfl | hy
    · omega
    · exact digs_oct _ y hy
  obtain ⟨M, hM⟩ : ∃ M : List Int, M = 109 :: digs id.toNat := ⟨_, rfl⟩
  rw [← hM] at hn1 hn2
  have HMd : Hid (madeP s id = if (readP s M).2 = 0 then (match madeM (readP s M).1 with
    | none => (none, 21)
    | some v => (some v, 0))
  else (none, (readP s M).2)) := by unfold Hid madeP; rw [hn1]
  have HNa := hid (nameX 109 id (strOfNums M) 0 (by rw [hn1]) (by omega) w0 (HT.out.up U0.out))
  have HRd : Hid (∀ W, Below w.heap.size w W → Calls Tryz.prog 50 #[.agg #[.int .i64 s.cap, .slice af nf cf, .slice an nn cn, .slice as' ns cs', .int .i64 s.next], .string (strOfNums M)] W fun e w' => ∃ v', e = .returned (.tuple #[v', .int .i64 (readP s M).2]) ∧ OwnB w' W.heap.size v' (readP s M).1 ∧ OctL (readP s M).1 ∧ Below W.heap.size W w') := fun W hW => read_any s M hn2 _ W (HS.out.up hW) hl
  have HRl := hid (read_len s M)
  obtain ⟨b, hb⟩ : ∃ b, b = (readP s M).1 := ⟨_, rfl⟩
  obtain ⟨er, her⟩ : ∃ er, er = (readP s M).2 := ⟨_, rfl⟩
  rw [← hb, ← her] at HRd HMd
  rw [← hb] at HRl
  have HN2 : Hid (w.heap.size ≤ w.heap.size + 1) := Nat.le_succ _
  clear hw0 hv ht sz1 hn1 hn2 hn3 hM hi hb her
  go_enter Tryz.func52, Tryz.ntmps52
  go_upto_region 1 with fail
  rw [HW0.out]
  clear HW0
  generalize hNr : w.heap.size + 1 = N4 at *
  clear hNr
  go_wp2_with fail
  refine HNa.out.mono ?_
  rintro e w1 ⟨rfl, b1⟩
  have U1 : Hid (Below w.heap.size w w1) := up_trans U0.out b1
  have x0 := blk_cell (blk_up B0.out b1) 0 _ rfl
  have x1 := blk_cell (blk_up B0.out b1) 1 _ rfl
  have x2 := blk_cell (blk_up B0.out b1) 2 _ rfl
  have x3 := blk_cell (blk_up B0.out b1) 3 _ rfl
  have x4 := blk_cell (blk_up B0.out b1) 4 _ rfl
  have B41 : Hid (w1.heap[N4]? = some (.cells #[.slice none 0 0, .int .i64 0, .int .i64 0] 39)) := blk_up B4.out b1
  have HR1 := hid (HRd.out w1 U1.out)
  clear b1 HNa B0 B4 U0 HRd
  go_wp2_with fail
  refine HR1.out.mono ?_
  rintro e w2 ⟨v2, rfl, o2, ol, b2⟩
  obtain ⟨a2, n2, c2, e2, -⟩ := own_shape o2
  subst e2
  have U2 : Hid (Below w.heap.size w w2) := up_trans U1.out b2
  have B42 : Hid (w2.heap[N4]? = some (.cells #[.slice none 0 0, .int .i64 0, .int .i64 0] 39)) := blk_up B41.out b2
  have O2 : Hid (Octs w2 (.slice a2 n2 c2) b) := Octs.own o2 ol
  have z0 := blk_cell B42.out 0 _ rfl
  have z1 := blk_cell B42.out 1 _ rfl
  have z2 := blk_cell B42.out 2 _ rfl
  have f0 := blk_frozen B42.out 0
  have f1 := blk_frozen B42.out 1
  have f2 := blk_frozen B42.out 2
  clear o2 ol b2 HR1 B41 x0 x1 x2 x3 x4
  by_cases c1 : er = 0
  case neg =>
    have c1b : (er != 0) = true := by simpa using c1
    have HM2 : Hid (madeP s id = (none, er)) := by rw [HMd.out, if_neg c1]; rfl
    clear HMd c1
    go_wp2_with fail
    refine bodyPost_ret (results_ver rfl (.inl rfl) _ _ rfl (set3_blk B42.out _ _ _)) rfl ?_
    refine HPost.out _ _ ?_
    rw [HM2.out]
    exact ⟨_, _, _, _, _, rfl, (fun v hv => by cases hv), up_set3 U2.out HN2.out⟩
  case pos =>
    subst c1
    have HM1 : Hid (madeP s id = (match madeM b with
      | none => (none, 21)
      | some v => (some v, 0))) := by rw [HMd.out, if_pos rfl]; rfl
    have HSc := hid (scan_any b (.slice a2 n2 c2) w2 O2.out (by have := HRl.out; omega))
    clear HMd
    go_wp2_with fail
    refine HSc.out.mono ?_
    rintro e w3 ⟨a3, n3, c3, xs, rfl, hn3, hxs, o3, hN3, b3⟩
    have HXs := hid hxs
    have U3 : Hid (Below w.heap.size w w3) := up_trans U2.out b3
    have B43 : Hid (w3.heap[N4]? = some (.cells #[.slice none 0 0, .int .i64 0, .int .i64 0] 39)) := blk_up B42.out b3
    have R3 : Hid (Rws 2 w3 (.slice a3 n3 c3) (xs.map grow)) := Rws.own o3
    have HX : Hid (∀ x ∈ xs, Octs w3 x.1 x.2.2.1) := fun x hx => (hN3 x hx).1
    subst hn3
    have HNl : Hid (xs.length = (scanOf b).length) := by unfold Hid; rw [← hxs, List.length_map]
    have hnb : xs.length ≤ 16777216 := by
      have h1 := (scanF_len (b.length + 1) b O2.out.1).2
      have h2 := HNl.out
      unfold scanOf at h2
      have h3 := HRl.out
      omega
    have z0 := blk_cell B43.out 0 _ rfl
    have z1 := blk_cell B43.out 1 _ rfl
    have z2 := blk_cell B43.out 2 _ rfl
    have f0 := blk_frozen B43.out 0
    have f1 := blk_frozen B43.out 1
    have f2 := blk_frozen B43.out 2
    clear o3 hN3 b3 HSc hxs
    by_cases c2 : xs.length = 0
    · have HM2 : Hid (madeP s id = (none, 21)) := by
        rw [HM1.out]
        unfold madeM
        have : scanOf b = [] := List.length_eq_zero_iff.1 (by rw [← HNl.out]; exact c2)
        rw [if_pos this]
        rfl
      have c2b : (((xs.length : Nat) : Int) == 0) = true := by simpa using c2
      have c2c : ((xs.length : Nat) : Int) = 0 := by omega
      clear HM1 HNl
      rw [c2] at R3 ⊢
      go_wp2_with fail
      refine bodyPost_ret (results_ver rfl (.inl rfl) _ _ rfl (set3_blk B43.out _ _ _)) rfl ?_
      refine HPost.out _ _ ?_
      rw [HM2.out]
      exact ⟨_, _, _, _, _, rfl, (fun v hv => by cases hv), up_set3 U3.out HN2.out⟩
    have c2b : (((xs.length : Nat) : Int) == 0) = false := by rw [beq_eq_false_iff_ne]; omega
    have HM2 : Hid (madeP s id = (match foldM (scanOf b) ([], 0, 1) with
      | none => (none, 21)
      | some v => (some v, 0))) := by
      rw [HM1.out]
      unfold madeM
      have : ¬ scanOf b = [] := fun q => c2 (by rw [HNl.out, q]; rfl)
      rw [if_neg this]
      rfl
    have HNw := hid (new_anyE w3)
    clear HM1 c2
    go_wp2_with fail
    refine HNw.out.mono ?_
    rintro e w4 ⟨rfl, b4⟩
    obtain ⟨w5, hw5⟩ : ∃ w5, w5 = w4.alloc (.cells #[.slice none 0 0, .int .i64 0, .int .i64 1] 39) := ⟨_, rfl⟩
    have HW5 : Hid (w4.alloc (.cells #[.slice none 0 0, .int .i64 0, .int .i64 1] 39) = w5) := hid hw5.symm
    have V5 : Hid (Below w3.heap.size w3 w5) := by rw [hw5]; exact up_al b4.out _
    have B5 : Hid (w5.heap[w4.heap.size]? = some (.cells #[.slice none 0 0, .int .i64 0, .int .i64 1] 39)) := by rw [hw5]; exact blk_new _ _
    have HN5 : Hid (w3.heap.size ≤ w4.heap.size) := b4.out.size
    have HN45 : Hid (N4 < w3.heap.size) := blk_lt B43.out
    clear hw5 HNw z0 z1 z2 f0 f1 f2
    go_upto_region 11 with fail
    rw [HW5.out]
    clear HW5
    go_wp2_with fail
    go_loopw [47] (fun i wr => ∃ (k : Nat) (u : Vn) (a : Option Addr) (n c : Nat), k ≤ xs.length ∧ i = .int .i64 k ∧ Hid (foldM ((scanOf b).take k) ([], 0, 1) = some u) ∧ Hid (wr.heap[w4.heap.size]? = some (.cells #[.slice a n c, .int .i64 u.2.1, .int .i64 u.2.2] 39)) ∧ Hid (OwnR wr w3.heap.size 148 5 (.slice a n c) (u.1.map meRow)) ∧ Hid (Below w3.heap.size w3 wr)) (fun i _ => xs.length - (intOf i).toNat)
    case atStart => exact ⟨0, ([], 0, 1), none, 0, 0, Nat.zero_le _, rfl, rfl, B5.out, OwnR.nil _ _ _ _, V5.out⟩
    case round =>
      obtain ⟨k, u, a, n, c, hk, rfl, HFo, HB, HO, HU⟩ := hrel
      have B4r : Hid (wr.heap[N4]? = some (.cells #[.slice none 0 0, .int .i64 0, .int .i64 0] 39)) := blk_up B43.out HU.out
      have z0 := blk_cell B4r.out 0 _ rfl
      have z1 := blk_cell B4r.out 1 _ rfl
      have z2 := blk_cell B4r.out 2 _ rfl
      have f0 := blk_frozen B4r.out 0
      have f1 := blk_frozen B4r.out 1
      have f2 := blk_frozen B4r.out 2
      have q0 := blk_cell HB.out 0 _ rfl
      have q1 := blk_cell HB.out 1 _ rfl
      have q2 := blk_cell HB.out 2 _ rfl
      by_cases hlt : k < xs.length
      · have hlt' : (k : Int) < (xs.length : Int) := by omega
        obtain ⟨x, hx⟩ : ∃ x, xs[k]? = some x := ⟨xs[k], List.getElem?_eq_getElem hlt⟩
        have hxm : x ∈ xs := List.mem_of_getElem? hx
        have hsc : (scanOf b)[k]? = some x.2 := by rw [← HXs.out, List.getElem?_map, hx]; rfl
        obtain ⟨b6, o6, c6, e6, _, _, hc6⟩ := (R3.out.up HU.out).at k (by rw [List.length_map]; exact hlt)
        rw [List.length_map] at e6
        simp at e6
        obtain ⟨rfl, rfl⟩ := e6
        have hrow : (xs.map grow).getD k [] = grow x := by simp [List.getD, hx]
        rw [hrow] at hc6
        have d0 := hc6 0 _ rfl
        have d1 := hc6 1 _ rfl
        simp only [Nat.add_zero] at d0 d1
        have HOx := hid ((HX.out x hxm).up HU.out)
        have HGo := hid (fold_goes HFo.out hsc)
        obtain ⟨vx, kk, dd, nx⟩ := x
        simp only at d0 d1 HOx HGo
        obtain ⟨ax, cx, ex, -⟩ := HOx.out.slice
        subst ex
        obtain ⟨w6, hw6⟩ : ∃ w6, w6 = wr.alloc (.cells #[.int .i64 kk, .slice ax dd.length cx] 154) := ⟨_, rfl⟩
        have HW6 : Hid (wr.alloc (.cells #[.int .i64 kk, .slice ax dd.length cx] 154) = w6) := hid hw6.symm
        have V6 : Hid (Below wr.heap.size wr w6) := by rw [hw6]; exact up_alloc _ _
        have B6 : Hid (w6.heap[wr.heap.size]? = some (.cells #[.int .i64 kk, .slice ax dd.length cx] 154)) := by rw [hw6]; exact blk_new _ _
        have HBe := hid (behind_any u.1 u.2.1 u.2.2 kk dd a ax n c dd.length cx w6 (MetsR.up (Rws.own HO.out) V6.out) (HOx.out.up V6.out))
        have HU6 : Hid (Below w3.heap.size w3 w6) := up_trans HU.out V6.out
        have HB6 : Hid (w6.heap[w4.heap.size]? = some (.cells #[.slice a n c, .int .i64 u.2.1, .int .i64 u.2.2] 39)) := blk_up HB.out V6.out
        clear hw6 hx hxm hsc hc6 hrow q0 q1 q2 z0 z1 z2 f0 f1 f2 HOx
        obtain ⟨o, ho⟩ : ∃ o, o = stepM u kk dd := ⟨_, rfl⟩
        have HBx : Hid (Calls Tryz.prog 93 #[.agg #[.slice a n c, .int .i64 u.2.1, .int .i64 u.2.2], .agg #[.int .i64 kk, .slice ax dd.length cx]] w6 fun e w' => ∃ a n c s x, e = .returned (.tuple #[.agg #[.slice a n c, .int .i64 s, .int .i64 x], .bool o.isSome]) ∧ Hid (VerP w' w6.heap.size o a n c s x) ∧ Hid (Below w6.heap.size w6 w')) := by rw [ho]; exact HBe.out
        rw [← ho] at HGo
        clear HBe ho
        go_upto_region 14 with fail
        rw [HW6.out]
        clear HW6 d0 d1
        have q0 := blk_cell HB6.out 0 _ rfl
        have q1 := blk_cell HB6.out 1 _ rfl
        have q2 := blk_cell HB6.out 2 _ rfl
        have d0 := blk_cell B6.out 0 _ rfl
        have d1 := blk_cell B6.out 1 _ rfl
        go_wp2_with fail
        refine HBx.out.mono ?_
        rintro e w7 ⟨a7, n7, c7, s7, x7, rfl, HVp, b7⟩
        obtain ⟨w8, hw8⟩ : ∃ w8, w8 = w7.alloc (.cells #[.slice a7 n7 c7, .int .i64 s7, .int .i64 x7] 39) := ⟨_, rfl⟩
        have HW8 : Hid (w7.alloc (.cells #[.slice a7 n7 c7, .int .i64 s7, .int .i64 x7] 39) = w8) := hid hw8.symm
        have V8 : Hid (Below w7.heap.size w7 w8) := by rw [hw8]; exact up_alloc _ _
        have V68 : Hid (Below w6.heap.size w6 w8) := up_trans b7.out V8.out
        have HU8 : Hid (Below w3.heap.size w3 w8) := up_trans HU6.out V68.out
        have B8 : Hid (w8.heap[w7.heap.size]? = some (.cells #[.slice a7 n7 c7, .int .i64 s7, .int .i64 x7] 39)) := by rw [hw8]; exact blk_new _ _
        have HB8 : Hid (w8.heap[w4.heap.size]? = some (.cells #[.slice a n c, .int .i64 u.2.1, .int .i64 u.2.2] 39)) := blk_up HB6.out V68.out
        have B48 : Hid (w8.heap[N4]? = some (.cells #[.slice none 0 0, .int .i64 0, .int .i64 0] 39)) := blk_up B43.out HU8.out
        clear hw8 HBx b7 q0 q1 q2 d0 d1
        go_upto_region 15 with fail
        rw [HW8.out]
        clear HW8
        cases o with
        | none =>
          have HM3 : Hid (madeP s id = (none, 21)) := by rw [HM2.out, fold_none HGo.out]; rfl
          have z0 := blk_cell B48.out 0 _ rfl
          have z1 := blk_cell B48.out 1 _ rfl
          have z2 := blk_cell B48.out 2 _ rfl
          have f0 := blk_frozen B48.out 0
          have f1 := blk_frozen B48.out 1
          have f2 := blk_frozen B48.out 2
          clear HM2 HGo HFo
          go_wp2_with fail
          refine bodyPost_ret (results_ver rfl (.inl rfl) _ _ rfl (set3_blk B48.out _ _ _)) rfl ?_
          refine HPost.out _ _ ?_
          rw [HM3.out]
          exact ⟨_, _, _, _, _, rfl, (fun v hv => by cases hv), up_set3 (up_trans U3.out HU8.out) HN2.out⟩
        | some u2 =>
          obtain ⟨hO7, hs7, hx7⟩ := HVp.out u2 rfl
          have O8 : Hid (OwnR w8 w6.heap.size 148 5 (.slice a7 n7 c7) (u2.1.map meRow)) := hO7.up V8.out
          have HSx := hid (And.intro hs7 hx7)
          have q0 := blk_cell HB8.out 0 _ rfl
          have q1 := blk_cell HB8.out 1 _ rfl
          have q2 := blk_cell HB8.out 2 _ rfl
          have f0 := blk_frozen HB8.out 0
          have f1 := blk_frozen HB8.out 1
          have f2 := blk_frozen HB8.out 2
          have p0 := blk_cell B8.out 0 _ rfl
          have p1 := blk_cell B8.out 1 _ rfl
          have p2 := blk_cell B8.out 2 _ rfl
          clear hO7 hs7 hx7 HVp HFo
          go_wp2_with fail
          refine ⟨⟨k + 1, u2, a7, n7, c7, by omega, by go_num, HGo, ?_, ?_, ?_⟩, by simp [intOf]; omega⟩
          · rw [← HSx.out.1, ← HSx.out.2]
            exact set3_blk HB8.out _ _ _
          · refine ((O8.out.mono HU6.out.size).far (set3_grown w8 w4.heap.size _ _ _) ?_)
            exact own_blk_ne O8.out.2 HB8.out (by decide)
          · exact up_set3 HU8.out HN5.out
      · have hlt' : ¬ (k : Int) < (xs.length : Int) := by omega
        obtain rfl : k = xs.length := by omega
        have HF2 : Hid (foldM (scanOf b) ([], 0, 1) = some u) := by
          have := HFo.out
          rw [HNl.out, List.take_length] at this
          exact this
        have HM3 : Hid (madeP s id = (some u, 0)) := by rw [HM2.out, HF2.out]; rfl
        have HNe : Hid (N4 ≠ w4.heap.size) := by have := HN45.out; have := HN5.out; unfold Hid; omega
        clear HM2 HFo HF2
        go_wp2_with fail
        refine bodyPost_ret (results_ver rfl (.inl rfl) _ _ rfl (set3_blk B4r.out _ _ _)) rfl ?_
        refine HPost.out _ _ ?_
        rw [HM3.out]
        refine ⟨a, n, c, u.2.1, u.2.2, rfl, ?_, up_set3 (up_trans U3.out HU.out) HN2.out⟩
        intro v hv
        injection hv with hv
        subst hv
        refine ⟨?_, rfl, rfl⟩
        refine ((HO.out.mono U3.out.size).far (set3_grown wr N4 _ _ _) ?_)
        exact own_blk_ne HO.out.2 B4r.out (by decide)
end Go.Proofs.YtnchjlimkgbfpaaGreatDoor

namespace Go.Proofs.YtnchjlimkgbfpaaGreatDoor
open Go.RowKit
set_option linter.unusedVariables false
set_option linter.unusedSimpArgs false
set_option maxRecDepth 20000
def curR (o : Option Int) : Value := match o with
  | none => .tuple #[.int .i64 0, .int .i64 21]
  | some id => .tuple #[.int .i64 id, .int .i64 0]
theorem curOf_none {b : List Int} (h : ¬ ((fget b).2.2.2 = 0 ∧ (fget b).2.2.1 = (b.length : Int) ∧ (fget b).1 = 4 ∧ (getOf (fget b).2.1).2.2 = 0 ∧ (getOf (fget b).2.1).2.1 = ((fget b).2.1.length : Int) ∧ 1 ≤ (getOf (fget b).2.1).1 ∧ (getOf (fget b).2.1).1 ≤ 2147483647)) : curR (curOf b) = .tuple #[.int .i64 0, .int .i64 21] := by
  unfold curOf
  rw [if_neg h]
  rfl
theorem getOf_range {l : List Int} (hx : ∀ x ∈ l, 0 ≤ x ∧ x ≤ 255) : 0 ≤ (getOf l).1 ∧ (getOf l).1 ≤ 18446744073709551615 := by
  rcases get_says l hx with h | h | ⟨n, j, h, h0, h1, _⟩
  · rw [getRet_inj h]; simp
  · rw [getRet_inj h]; simp
  · rw [getRet_inj h]; exact ⟨h0, h1⟩
set_option maxHeartbeats 4000000 in
theorem curID_any (b : List Int) (v : Value) (w : World) (hv : Octs w v b) :
    Calls Tryz.prog 51 #[v] w fun e w' => e = .returned (curR (curOf b)) ∧ Hid (Below w.heap.size w w') := by
  have HF := hid (fget_any b v w hv)
  obtain ⟨av, cv, ev, _⟩ := hv.slice
  subst ev
  have HBl : Hid (b.length = b.length) := rfl
  have HNo := hid (@curOf_none b)
  have HYe : Hid (curOf b = if (fget b).2.2.2 = 0 ∧ (fget b).2.2.1 = (b.length : Int) ∧ (fget b).1 = 4 ∧ (getOf (fget b).2.1).2.2 = 0 ∧ (getOf (fget b).2.1).2.1 = ((fget b).2.1.length : Int) ∧ 1 ≤ (getOf (fget b).2.1).1 ∧ (getOf (fget b).2.1).1 ≤ 2147483647 then some (getOf (fget b).2.1).1 else none) := rfl
  obtain ⟨k, hk⟩ : ∃ k, k = (fget b).1 := ⟨_, rfl⟩
  obtain ⟨d, hd⟩ : ∃ d, d = (fget b).2.1 := ⟨_, rfl⟩
  obtain ⟨z, hz⟩ : ∃ z, z = (fget b).2.2.1 := ⟨_, rfl⟩
  obtain ⟨y, hy⟩ : ∃ y, y = (fget b).2.2.2 := ⟨_, rfl⟩
  rw [← hk, ← hd, ← hz, ← hy] at HF HNo HYe
  clear hk hd hz hy hv HBl
  go_enter Tryz.func51, Tryz.ntmps51
  go_wp2_with fail
  refine HF.out.mono ?_
  rintro e w1 ⟨vd, rfl, hN, hb⟩
  have U1 : Hid (Below w.heap.size w w1) := hb
  obtain ⟨ad, cd, ed, _⟩ := hN.1.slice
  subst ed
  have O1 := hid hN.1
  have HN0 := hid (getOf_range hN.1.1)
  have U2 : Hid (Below w.heap.size w (w1.alloc (.cells #[.int .i64 k, .slice ad d.length cd] 154))) := up_al U1.out _
  clear hN hb HF
  by_cases c1 : y = 0
  case neg =>
    have c1b : (y != 0) = true := by simpa using c1
    have c1c : (y = 0) = False := by simpa using c1
    have HR := hid (HNo.out (fun q => c1 q.1))
    clear HNo HYe c1
    go_wp2_with fail
    go_ret2
    rw [HR.out]
    exact ⟨rfl, U2⟩
  subst c1
  by_cases c2 : z = (b.length : Int)
  case neg =>
    have c2b : (z != (b.length : Int)) = true := by simpa using c2
    have c2d : (z = (b.length : Int)) = False := by simpa using c2
    have HR := hid (HNo.out (fun q => c2 q.2.1))
    clear HNo HYe c2
    go_wp2_with fail
    go_ret2
    rw [HR.out]
    exact ⟨rfl, U2⟩
  have c2b : (z != (b.length : Int)) = false := by simpa using c2
  have c2d : (z = (b.length : Int)) = True := by simpa using c2
  by_cases c3 : k = 4
  case neg =>
    have c3b : (k != 4) = true := by simpa using c3
    have c3c : (k = 4) = False := by simpa using c3
    have HR := hid (HNo.out (fun q => c3 q.2.2.1))
    clear HNo HYe c3 c2
    go_wp2_with fail
    go_ret2
    rw [HR.out]
    exact ⟨rfl, U2⟩
  subst c3
  obtain ⟨n, hn⟩ : ∃ n, n = (getOf d).1 := ⟨_, rfl⟩
  obtain ⟨j, hj⟩ : ∃ j, j = (getOf d).2.1 := ⟨_, rfl⟩
  obtain ⟨f, hf⟩ : ∃ f, f = (getOf d).2.2 := ⟨_, rfl⟩
  have HG : Hid (Calls Tryz.prog 90 #[.slice ad d.length cd] (w1.alloc (.cells #[.int .i64 4, .slice ad d.length cd] 154)) fun e w' => e = .returned (.tuple #[.int .u64 n, .int .i64 j, .int .i64 f]) ∧ Below (w1.alloc (.cells #[.int .i64 4, .slice ad d.length cd] 154)).heap.size (w1.alloc (.cells #[.int .i64 4, .slice ad d.length cd] 154)) w') := by
    refine (get_any d _ _ (O1.out.up (up_alloc _ _))).mono ?_
    rintro e w' ⟨rfl, m, rfl⟩
    rw [hn, hj, hf]
    exact ⟨rfl, up_drewN _ _⟩
  rw [← hn] at HN0
  rw [← hn, ← hj, ← hf] at HNo HYe
  clear hn hj hf
  have HYe2 : Hid (f = 0 → j = (d.length : Int) → 1 ≤ n → n ≤ 2147483647 → curR (curOf b) = .tuple #[.int .i64 n, .int .i64 0]) := by
    intro q1 q2 q3 q4
    rw [HYe.out, if_pos ⟨rfl, c2, rfl, q1, q2, q3, q4⟩]
    rfl
  have HNo2 : Hid (¬ (f = 0 ∧ j = (d.length : Int) ∧ 1 ≤ n ∧ n ≤ 2147483647) → curR (curOf b) = .tuple #[.int .i64 0, .int .i64 21]) := fun q => HNo.out (fun h => q ⟨h.2.2.2.1, h.2.2.2.2.1, h.2.2.2.2.2.1, h.2.2.2.2.2.2⟩)
  clear HYe HNo
  clear c2
  go_wp2_with fail
  refine HG.out.mono ?_
  rintro e w2 ⟨rfl, hb2⟩
  have U3 : Hid (Below w.heap.size w w2) := up_trans U2.out hb2
  have q0 := blk_cell (blk_up (blk_new w1 (.cells #[.int .i64 4, .slice ad d.length cd] 154)) hb2) 0 _ rfl
  have q1 := blk_cell (blk_up (blk_new w1 (.cells #[.int .i64 4, .slice ad d.length cd] 154)) hb2) 1 _ rfl
  clear hb2 HG
  by_cases c4 : f = 0
  case neg =>
    have c4b : (f != 0) = true := by simpa using c4
    have c4c : (f = 0) = False := by simpa using c4
    have HR := hid (HNo2.out (fun q => c4 q.1))
    clear HNo2 HYe2 c4
    go_wp2_with fail
    go_ret2
    rw [HR.out]
    exact ⟨rfl, U3⟩
  subst c4
  by_cases c5 : j = (d.length : Int)
  case neg =>
    have c5b : (j != (d.length : Int)) = true := by simpa using c5
    have c5d : (j = (d.length : Int)) = False := by simpa using c5
    have HR := hid (HNo2.out (fun q => c5 q.2.1))
    clear HNo2 HYe2 c5
    go_wp2_with fail
    go_ret2
    rw [HR.out]
    exact ⟨rfl, U3⟩
  have c5b : (j != (d.length : Int)) = false := by simpa using c5
  have c5d : (j = (d.length : Int)) = True := by simpa using c5
  have HYe3 : Hid (1 ≤ n → n ≤ 2147483647 → curR (curOf b) = .tuple #[.int .i64 n, .int .i64 0]) := fun h1 h2 => HYe2.out rfl c5 h1 h2
  have HNo3 : Hid (¬ (1 ≤ n ∧ n ≤ 2147483647) → curR (curOf b) = .tuple #[.int .i64 0, .int .i64 21]) := fun q => HNo2.out (fun h => q ⟨h.2.2.1, h.2.2.2⟩)
  clear HYe2 HNo2 c5
  by_cases c6 : n ≤ 2147483647
  case neg =>
    have c6b : 2147483647 < n := by omega
    have HR := hid (HNo3.out (fun q => c6 q.2))
    clear HNo3 HYe3 c6
    go_wp2_with fail
    go_ret2
    rw [HR.out]
    exact ⟨rfl, U3⟩
  have c6b : ¬ 2147483647 < n := by omega
  have hwr : IntKind.i64.wrap n = n := by
    have := HN0.out
    rw [IntKind.wrap_i64]
    omega
  have HI := hid (isID_any n w2)
  by_cases c7 : 1 ≤ n
  · have hi : idOk n = true := by simp [idOk, c6, c7]
    rw [hi] at HI
    have HR := hid (HYe3.out c7 c6)
    clear HNo3 HYe3 c6 c7 hi
    go_wp2_with fail
    refine HI.out.mono ?_
    rintro e w3 ⟨rfl, rfl⟩
    go_wp2_with fail
    go_ret2
    rw [HR.out]
    exact ⟨rfl, U3⟩
  · have hi : idOk n = false := by simp [idOk, c7]
    rw [hi] at HI
    have HR := hid (HNo3.out (fun q => c7 q.1))
    clear HNo3 HYe3 c6 c7 hi
    go_wp2_with fail
    refine HI.out.mono ?_
    rintro e w3 ⟨rfl, rfl⟩
    go_wp2_with fail
    go_ret2
    rw [HR.out]
    exact ⟨rfl, U3⟩
end Go.Proofs.YtnchjlimkgbfpaaGreatDoor
