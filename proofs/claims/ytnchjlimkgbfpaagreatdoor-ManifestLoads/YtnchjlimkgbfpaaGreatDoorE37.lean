/- The texts OMade, OLoad, in this order. -/
import Derived.Test.YtnchjlimkgbfpaaGreatDoorE35
import Derived.Test.YtnchjlimkgbfpaaGreatDoorE19
import Derived.Test.YtnchjlimkgbfpaaGreatDoorFScan
import Derived.Test.YtnchjlimkgbfpaaGreatDoorE22
import Derived.Test.YtnchjlimkgbfpaaGreatDoorE12
import Derived.Test.YtnchjlimkgbfpaaGreatDoorE32

namespace Go.Proofs.YtnchjlimkgbfpaaGreatDoor
open Go.RowKit
set_option linter.unusedVariables false
set_option linter.unusedSimpArgs false
set_option maxRecDepth 20000
theorem foldM_append : ∀ (l r : List (Int × List Int × Nat)) (v : Vn), foldM (l ++ r) v = (foldM l v).bind (foldM r)
  | [], r, v => rfl
  | x :: l, r, v => by
    rw [List.cons_append, foldM, foldM]
    cases stepM v x.1 x.2.1 with
    | none => rfl
    | some u => exact foldM_append l r u
theorem fold_goes {l : List (Int × List Int × Nat)} {k : Nat} {v : Vn} {r : Int × List Int × Nat} {v0 : Vn} (h : foldM (l.take k) v0 = some v) (hr : l[k]? = some r) : foldM (l.take (k + 1)) v0 = stepM v r.1 r.2.1 := by
  rw [List.take_add_one, hr, foldM_append, h]
  show foldM [r] v = _
  simp only [foldM]
  cases stepM v r.1 r.2.1 <;> rfl
theorem fold_none {l : List (Int × List Int × Nat)} {k : Nat} {v0 : Vn} (h : foldM (l.take k) v0 = none) : foldM l v0 = none := by
  have := foldM_append (l.take k) (l.drop k) v0
  rw [List.take_append_drop, h] at this
  exact this
theorem sum_ge : ∀ (l : List (Int × List Int × Int)) (i : Nat), ((l.getD i (0, [], 0)).2.1.length : Int) ≤ usedOf l ∧ 0 ≤ usedOf l
  | [], i => by simp [usedOf]
  | x :: l, 0 => by
    have := sum_ge l 0
    simp only [usedOf, List.map_cons, List.sum_cons, List.getD_cons_zero] at this ⊢
    omega
  | x :: l, i + 1 => by
    have := sum_ge l i
    simp only [usedOf, List.map_cons, List.sum_cons, List.getD_cons_succ] at this ⊢
    omega
theorem read_len (s : St) (x : List Int) : (readP s x).1.length ≤ 16777216 := by
  unfold readP
  cases h : checkP s with
  | false => simp
  | true =>
    have g := check_good h
    have h1 := g.used
    have h2 := g.cap1
    simp only [if_true]
    split
    · unfold fileD
      have := (sum_ge s.files (idxF s x)).1
      simp only
      omega
    · simp
def madeP (s : St) (id : Int) : Option Vn × Int :=
  if (readP s (nameN 109 id).1).2 = 0 then (match madeM (readP s (nameN 109 id).1).1 with
    | none => (none, 21)
    | some v => (some v, 0))
  else (none, (readP s (nameN 109 id).1).2)
def MadE (w : World) (r : Option Vn × Int) (e : Ending) (w' : World) : Prop := ∃ a n c s x, e = .returned (.tuple #[.agg #[.slice a n c, .int .i64 s, .int .i64 x], .int .i64 r.2]) ∧ Hid (VerP w' w.heap.size r.1 a n c s x) ∧ Hid (Below w.heap.size w w')
set_option maxHeartbeats 4000000 in
theorem made_any (s : St) (v : Value) (id : Int) (hi : idOk id = true) (w : World) (hv : StW w v s) (hl : s.names.length + s.safe.length ≤ 9223372036854775807) (ht : Tab w) :
    Calls Tryz.prog 52 #[v, .int .i64 id] w (MadE w (madeP s id)) := by
  obtain ⟨Post, hP⟩ : ∃ Post : Ending → World → Prop, Post = MadE w (madeP s id) := ⟨_, rfl⟩
  have HPost : Hid (∀ e w', MadE w (madeP s id) e w' → Post e w') := fun e w' h => by rw [hP]; exact h
  rw [← hP]
  clear hP
  obtain ⟨af, nf, cf, an, nn, cn, as', ns, cs', ev⟩ := hv.shape
  subst ev
  have HS : Hid (StW w (.agg #[.int .i64 s.cap, .slice af nf cf, .slice an nn cn, .slice as' ns cs', .int .i64 s.next]) s) := hv
  have HT : Hid (Tab w) := ht
  obtain ⟨w0, hw0⟩ : ∃ w0, w0 = (w.alloc (.cells #[.int .i64 s.cap, .slice af nf cf, .slice an nn cn, .slice as' ns cs', .int .i64 s.next] 35)).alloc (.cells #[.slice none 0 0, .int .i64 0, .int .i64 0] 39) := ⟨_, rfl⟩
  have HW0 : Hid ((w.alloc (.cells #[.int .i64 s.cap, .slice af nf cf, .slice an nn cn, .slice as' ns cs', .int .i64 s.next] 35)).alloc (.cells #[.slice none 0 0, .int .i64 0, .int .i64 0] 39) = w0) := hid hw0.symm
  have U0 : Hid (Below w.heap.size w w0) := by rw [hw0]; exact up_al (up_alloc _ _) _
  have sz1 : ∀ (W : World) (o : Obj), (W.alloc o).heap.size = W.heap.size + 1 := fun W o => by simp
  have B0 : Hid (w0.heap[w.heap.size]? = some (.cells #[.int .i64 s.cap, .slice af nf cf, .slice an nn cn, .slice as' ns cs', .int .i64 s.next] 35)) := by rw [hw0]; exact blk_up (blk_new _ _) (up_alloc _ _)
  have B4 : Hid (w0.heap[w.heap.size + 1]? = some (.cells #[.slice none 0 0, .int .i64 0, .int .i64 0] 39)) := by
    rw [hw0, ← sz1 w (.cells #[.int .i64 s.cap, .slice af nf cf, .slice an nn cn, .slice as' ns cs', .int .i64 s.next] 35)]
    exact blk_new _ _
  obtain ⟨hn1, hn2, hn3⟩ : nameN 109 id = (109 :: digs id.toNat, 0) ∧ (∀ y ∈ (109 :: digs id.toNat : List Int), 0 ≤ y ∧ y ≤ 255) ∧ (109 :: digs id.toNat : List Int).length ≤ 11 := by
    have h3 : 1 ≤ id ∧ id ≤ 2147483647 := by simpa [idOk] using hi
    have hl := digs_len 10 id.toNat (by omega)
    refine ⟨by unfold nameN; rw [hi]; rfl, fun y hy => ?_, by simp only [List.length_cons]; omega⟩
    rcases List.mem_cons.1 hy with rfl | hy
    · omega
    · exact digs_oct _ y hy
  obtain ⟨M, hM⟩ : ∃ M : List Int, M = 109 :: digs id.toNat := ⟨_, rfl⟩
  rw [← hM] at hn1 hn2
  have HMd : Hid (madeP s id = if (readP s M).2 = 0 then (match madeM (readP s M).1 with
    | none => (none, 21)
    | some v => (some v, 0))
  else (none, (readP s M).2)) := by unfold Hid madeP; rw [hn1]
  have HNa := hid (nameX 109 id (strOfNums M) 0 (by rw [hn1]) (by omega) w0 (HT.out.up U0.out))
  have HRd : Hid (∀ W, Below w.heap.size w W → Calls Tryz.prog 50 #[.agg #[.int .i64 s.cap, .slice af nf cf, .slice an nn cn, .slice as' ns cs', .int .i64 s.next], .string (strOfNums M)] W fun e w' => ∃ v', e = .returned (.tuple #[v', .int .i64 (readP s M).2]) ∧ OwnB w' W.heap.size v' (readP s M).1 ∧ OctL (readP s M).1 ∧ Below W.heap.size W w') := fun W hW => read_any s M hn2 _ W (HS.out.up hW) hl
  have HRl := hid (read_len s M)
  obtain ⟨b, hb⟩ : ∃ b, b = (readP s M).1 := ⟨_, rfl⟩
  obtain ⟨er, her⟩ : ∃ er, er = (readP s M).2 := ⟨_, rfl⟩
  rw [← hb, ← her] at HRd HMd
  rw [← hb] at HRl
  have HN2 : Hid (w.heap.size ≤ w.heap.size + 1) := Nat.le_succ _
  clear hw0 hv ht sz1 hn1 hn2 hn3 hM hi hb her
  go_enter Tryz.func52, Tryz.ntmps52
  go_upto_region 1 with fail
  rw [HW0.out]
  clear HW0
  generalize hNr : w.heap.size + 1 = N4 at *
  clear hNr
  go_wp2_with fail
  refine HNa.out.mono ?_
  rintro e w1 ⟨rfl, b1⟩
  have U1 : Hid (Below w.heap.size w w1) := up_trans U0.out b1
  have x0 := blk_cell (blk_up B0.out b1) 0 _ rfl
  have x1 := blk_cell (blk_up B0.out b1) 1 _ rfl
  have x2 := blk_cell (blk_up B0.out b1) 2 _ rfl
  have x3 := blk_cell (blk_up B0.out b1) 3 _ rfl
  have x4 := blk_cell (blk_up B0.out b1) 4 _ rfl
  have B41 : Hid (w1.heap[N4]? = some (.cells #[.slice none 0 0, .int .i64 0, .int .i64 0] 39)) := blk_up B4.out b1
  have HR1 := hid (HRd.out w1 U1.out)
  clear b1 HNa B0 B4 U0 HRd
  go_wp2_with fail
  refine HR1.out.mono ?_
  rintro e w2 ⟨v2, rfl, o2, ol, b2⟩
  obtain ⟨a2, n2, c2, e2, -⟩ := own_shape o2
  subst e2
  have U2 : Hid (Below w.heap.size w w2) := up_trans U1.out b2
  have B42 : Hid (w2.heap[N4]? = some (.cells #[.slice none 0 0, .int .i64 0, .int .i64 0] 39)) := blk_up B41.out b2
  have O2 : Hid (Octs w2 (.slice a2 n2 c2) b) := Octs.own o2 ol
  have z0 := blk_cell B42.out 0 _ rfl
  have z1 := blk_cell B42.out 1 _ rfl
  have z2 := blk_cell B42.out 2 _ rfl
  have f0 := blk_frozen B42.out 0
  have f1 := blk_frozen B42.out 1
  have f2 := blk_frozen B42.out 2
  clear o2 ol b2 HR1 B41 x0 x1 x2 x3 x4
  by_cases c1 : er = 0
  case neg =>
    have c1b : (er != 0) = true := by simpa using c1
    have HM2 : Hid (madeP s id = (none, er)) := by rw [HMd.out, if_neg c1]; rfl
    clear HMd c1
    go_wp2_with fail
    refine bodyPost_ret (results_ver rfl (.inl rfl) _ _ rfl (set3_blk B42.out _ _ _)) rfl ?_
    refine HPost.out _ _ ?_
    rw [HM2.out]
    exact ⟨_, _, _, _, _, rfl, (fun v hv => by cases hv), up_set3 U2.out HN2.out⟩
  case pos =>
    subst c1
    have HM1 : Hid (madeP s id = (match madeM b with
      | none => (none, 21)
      | some v => (some v, 0))) := by rw [HMd.out, if_pos rfl]; rfl
    have HSc := hid (scan_any b (.slice a2 n2 c2) w2 O2.out (by have := HRl.out; omega))
    clear HMd
    go_wp2_with fail
    refine HSc.out.mono ?_
    rintro e w3 ⟨a3, n3, c3, xs, rfl, hn3, hxs, o3, hN3, b3⟩
    have HXs := hid hxs
    have U3 : Hid (Below w.heap.size w w3) := up_trans U2.out b3
    have B43 : Hid (w3.heap[N4]? = some (.cells #[.slice none 0 0, .int .i64 0, .int .i64 0] 39)) := blk_up B42.out b3
    have R3 : Hid (Rws 2 w3 (.slice a3 n3 c3) (xs.map grow)) := Rws.own o3
    have HX : Hid (∀ x ∈ xs, Octs w3 x.1 x.2.2.1) := fun x hx => (hN3 x hx).1
    subst hn3
    have HNl : Hid (xs.length = (scanOf b).length) := by unfold Hid; rw [← hxs, List.length_map]
    have hnb : xs.length ≤ 16777216 := by
      have h1 := (scanF_len (b.length + 1) b O2.out.1).2
      have h2 := HNl.out
      unfold scanOf at h2
      have h3 := HRl.out
      omega
    have z0 := blk_cell B43.out 0 _ rfl
    have z1 := blk_cell B43.out 1 _ rfl
    have z2 := blk_cell B43.out 2 _ rfl
    have f0 := blk_frozen B43.out 0
    have f1 := blk_frozen B43.out 1
    have f2 := blk_frozen B43.out 2
    clear o3 hN3 b3 HSc hxs
    by_cases c2 : xs.length = 0
    · have HM2 : Hid (madeP s id = (none, 21)) := by
        rw [HM1.out]
        unfold madeM
        have : scanOf b = [] := List.length_eq_zero_iff.1 (by rw [← HNl.out]; exact c2)
        rw [if_pos this]
        rfl
      have c2b : (((xs.length : Nat) : Int) == 0) = true := by simpa using c2
      have c2c : ((xs.length : Nat) : Int) = 0 := by omega
      clear HM1 HNl
      rw [c2] at R3 ⊢
      go_wp2_with fail
      refine bodyPost_ret (results_ver rfl (.inl rfl) _ _ rfl (set3_blk B43.out _ _ _)) rfl ?_
      refine HPost.out _ _ ?_
      rw [HM2.out]
      exact ⟨_, _, _, _, _, rfl, (fun v hv => by cases hv), up_set3 U3.out HN2.out⟩
    have c2b : (((xs.length : Nat) : Int) == 0) = false := by rw [beq_eq_false_iff_ne]; omega
    have HM2 : Hid (madeP s id = (match foldM (scanOf b) ([], 0, 1) with
      | none => (none, 21)
      | some v => (some v, 0))) := by
      rw [HM1.out]
      unfold madeM
      have : ¬ scanOf b = [] := fun q => c2 (by rw [HNl.out, q]; rfl)
      rw [if_neg this]
      rfl
    have HNw := hid (new_anyE w3)
    clear HM1 c2
    go_wp2_with fail
    refine HNw.out.mono ?_
    rintro e w4 ⟨rfl, b4⟩
    obtain ⟨w5, hw5⟩ : ∃ w5, w5 = w4.alloc (.cells #[.slice none 0 0, .int .i64 0, .int .i64 1] 39) := ⟨_, rfl⟩
    have HW5 : Hid (w4.alloc (.cells #[.slice none 0 0, .int .i64 0, .int .i64 1] 39) = w5) := hid hw5.symm
    have V5 : Hid (Below w3.heap.size w3 w5) := by rw [hw5]; exact up_al b4.out _
    have B5 : Hid (w5.heap[w4.heap.size]? = some (.cells #[.slice none 0 0, .int .i64 0, .int .i64 1] 39)) := by rw [hw5]; exact blk_new _ _
    have HN5 : Hid (w3.heap.size ≤ w4.heap.size) := b4.out.size
    have HN45 : Hid (N4 < w3.heap.size) := blk_lt B43.out
    clear hw5 HNw z0 z1 z2 f0 f1 f2
    go_upto_region 11 with fail
    rw [HW5.out]
    clear HW5
    go_wp2_with fail
    go_loopw [47] (fun i wr => ∃ (k : Nat) (u : Vn) (a : Option Addr) (n c : Nat), k ≤ xs.length ∧ i = .int .i64 k ∧ Hid (foldM ((scanOf b).take k) ([], 0, 1) = some u) ∧ Hid (wr.heap[w4.heap.size]? = some (.cells #[.slice a n c, .int .i64 u.2.1, .int .i64 u.2.2] 39)) ∧ Hid (OwnR wr w3.heap.size 148 5 (.slice a n c) (u.1.map meRow)) ∧ Hid (Below w3.heap.size w3 wr)) (fun i _ => xs.length - (intOf i).toNat)
    case atStart => exact ⟨0, ([], 0, 1), none, 0, 0, Nat.zero_le _, rfl, rfl, B5.out, OwnR.nil _ _ _ _, V5.out⟩
    case round =>
      obtain ⟨k, u, a, n, c, hk, rfl, HFo, HB, HO, HU⟩ := hrel
      have B4r : Hid (wr.heap[N4]? = some (.cells #[.slice none 0 0, .int .i64 0, .int .i64 0] 39)) := blk_up B43.out HU.out
      have z0 := blk_cell B4r.out 0 _ rfl
      have z1 := blk_cell B4r.out 1 _ rfl
      have z2 := blk_cell B4r.out 2 _ rfl
      have f0 := blk_frozen B4r.out 0
      have f1 := blk_frozen B4r.out 1
      have f2 := blk_frozen B4r.out 2
      have q0 := blk_cell HB.out 0 _ rfl
      have q1 := blk_cell HB.out 1 _ rfl
      have q2 := blk_cell HB.out 2 _ rfl
      by_cases hlt : k < xs.length
      · have hlt' : (k : Int) < (xs.length : Int) := by omega
        obtain ⟨x, hx⟩ : ∃ x, xs[k]? = some x := ⟨xs[k], List.getElem?_eq_getElem hlt⟩
        have hxm : x ∈ xs := List.mem_of_getElem? hx
        have hsc : (scanOf b)[k]? = some x.2 := by rw [← HXs.out, List.getElem?_map, hx]; rfl
        obtain ⟨b6, o6, c6, e6, _, _, hc6⟩ := (R3.out.up HU.out).at k (by rw [List.length_map]; exact hlt)
        rw [List.length_map] at e6
        simp at e6
        obtain ⟨rfl, rfl⟩ := e6
        have hrow : (xs.map grow).getD k [] = grow x := by simp [List.getD, hx]
        rw [hrow] at hc6
        have d0 := hc6 0 _ rfl
        have d1 := hc6 1 _ rfl
        simp only [Nat.add_zero] at d0 d1
        have HOx := hid ((HX.out x hxm).up HU.out)
        have HGo := hid (fold_goes HFo.out hsc)
        obtain ⟨vx, kk, dd, nx⟩ := x
        simp only at d0 d1 HOx HGo
        obtain ⟨ax, cx, ex, -⟩ := HOx.out.slice
        subst ex
        obtain ⟨w6, hw6⟩ : ∃ w6, w6 = wr.alloc (.cells #[.int .i64 kk, .slice ax dd.length cx] 154) := ⟨_, rfl⟩
        have HW6 : Hid (wr.alloc (.cells #[.int .i64 kk, .slice ax dd.length cx] 154) = w6) := hid hw6.symm
        have V6 : Hid (Below wr.heap.size wr w6) := by rw [hw6]; exact up_alloc _ _
        have B6 : Hid (w6.heap[wr.heap.size]? = some (.cells #[.int .i64 kk, .slice ax dd.length cx] 154)) := by rw [hw6]; exact blk_new _ _
        have HBe := hid (behind_any u.1 u.2.1 u.2.2 kk dd a ax n c dd.length cx w6 (MetsR.up (Rws.own HO.out) V6.out) (HOx.out.up V6.out))
        have HU6 : Hid (Below w3.heap.size w3 w6) := up_trans HU.out V6.out
        have HB6 : Hid (w6.heap[w4.heap.size]? = some (.cells #[.slice a n c, .int .i64 u.2.1, .int .i64 u.2.2] 39)) := blk_up HB.out V6.out
        clear hw6 hx hxm hsc hc6 hrow q0 q1 q2 z0 z1 z2 f0 f1 f2 HOx
        obtain ⟨o, ho⟩ : ∃ o, o = stepM u kk dd := ⟨_, rfl⟩
        have HBx : Hid (Calls Tryz.prog 93 #[.agg #[.slice a n c, .int .i64 u.2.1, .int .i64 u.2.2], .agg #[.int .i64 kk, .slice ax dd.length cx]] w6 fun e w' => ∃ a n c s x, e = .returned (.tuple #[.agg #[.slice a n c, .int .i64 s, .int .i64 x], .bool o.isSome]) ∧ Hid (VerP w' w6.heap.size o a n c s x) ∧ Hid (Below w6.heap.size w6 w')) := by rw [ho]; exact HBe.out
        rw [← ho] at HGo
        clear HBe ho
        go_upto_region 14 with fail
        rw [HW6.out]
        clear HW6 d0 d1
        have q0 := blk_cell HB6.out 0 _ rfl
        have q1 := blk_cell HB6.out 1 _ rfl
        have q2 := blk_cell HB6.out 2 _ rfl
        have d0 := blk_cell B6.out 0 _ rfl
        have d1 := blk_cell B6.out 1 _ rfl
        go_wp2_with fail
        refine HBx.out.mono ?_
        rintro e w7 ⟨a7, n7, c7, s7, x7, rfl, HVp, b7⟩
        obtain ⟨w8, hw8⟩ : ∃ w8, w8 = w7.alloc (.cells #[.slice a7 n7 c7, .int .i64 s7, .int .i64 x7] 39) := ⟨_, rfl⟩
        have HW8 : Hid (w7.alloc (.cells #[.slice a7 n7 c7, .int .i64 s7, .int .i64 x7] 39) = w8) := hid hw8.symm
        have V8 : Hid (Below w7.heap.size w7 w8) := by rw [hw8]; exact up_alloc _ _
        have V68 : Hid (Below w6.heap.size w6 w8) := up_trans b7.out V8.out
        have HU8 : Hid (Below w3.heap.size w3 w8) := up_trans HU6.out V68.out
        have B8 : Hid (w8.heap[w7.heap.size]? = some (.cells #[.slice a7 n7 c7, .int .i64 s7, .int .i64 x7] 39)) := by rw [hw8]; exact blk_new _ _
        have HB8 : Hid (w8.heap[w4.heap.size]? = some (.cells #[.slice a n c, .int .i64 u.2.1, .int .i64 u.2.2] 39)) := blk_up HB6.out V68.out
        have B48 : Hid (w8.heap[N4]? = some (.cells #[.slice none 0 0, .int .i64 0, .int .i64 0] 39)) := blk_up B43.out HU8.out
        clear hw8 HBx b7 q0 q1 q2 d0 d1
        go_upto_region 15 with fail
        rw [HW8.out]
        clear HW8
        cases o with
        | none =>
          have HM3 : Hid (madeP s id = (none, 21)) := by rw [HM2.out, fold_none HGo.out]; rfl
          have z0 := blk_cell B48.out 0 _ rfl
          have z1 := blk_cell B48.out 1 _ rfl
          have z2 := blk_cell B48.out 2 _ rfl
          have f0 := blk_frozen B48.out 0
          have f1 := blk_frozen B48.out 1
          have f2 := blk_frozen B48.out 2
          clear HM2 HGo HFo
          go_wp2_with fail
          refine bodyPost_ret (results_ver rfl (.inl rfl) _ _ rfl (set3_blk B48.out _ _ _)) rfl ?_
          refine HPost.out _ _ ?_
          rw [HM3.out]
          exact ⟨_, _, _, _, _, rfl, (fun v hv => by cases hv), up_set3 (up_trans U3.out HU8.out) HN2.out⟩
        | some u2 =>
          obtain ⟨hO7, hs7, hx7⟩ := HVp.out u2 rfl
          have O8 : Hid (OwnR w8 w6.heap.size 148 5 (.slice a7 n7 c7) (u2.1.map meRow)) := hO7.up V8.out
          have HSx := hid (And.intro hs7 hx7)
          have q0 := blk_cell HB8.out 0 _ rfl
          have q1 := blk_cell HB8.out 1 _ rfl
          have q2 := blk_cell HB8.out 2 _ rfl
          have f0 := blk_frozen HB8.out 0
          have f1 := blk_frozen HB8.out 1
          have f2 := blk_frozen HB8.out 2
          have p0 := blk_cell B8.out 0 _ rfl
          have p1 := blk_cell B8.out 1 _ rfl
          have p2 := blk_cell B8.out 2 _ rfl
          clear hO7 hs7 hx7 HVp HFo
          go_wp2_with fail
          refine ⟨⟨k + 1, u2, a7, n7, c7, by omega, by go_num, HGo, ?_, ?_, ?_⟩, by simp [intOf]; omega⟩
          · rw [← HSx.out.1, ← HSx.out.2]
            exact set3_blk HB8.out _ _ _
          · refine ((O8.out.mono HU6.out.size).far (set3_grown w8 w4.heap.size _ _ _) ?_)
            exact own_blk_ne O8.out.2 HB8.out (by decide)
          · exact up_set3 HU8.out HN5.out
      · have hlt' : ¬ (k : Int) < (xs.length : Int) := by omega
        obtain rfl : k = xs.length := by omega
        have HF2 : Hid (foldM (scanOf b) ([], 0, 1) = some u) := by
          have := HFo.out
          rw [HNl.out, List.take_length] at this
          exact this
        have HM3 : Hid (madeP s id = (some u, 0)) := by rw [HM2.out, HF2.out]; rfl
        have HNe : Hid (N4 ≠ w4.heap.size) := by have := HN45.out; have := HN5.out; unfold Hid; omega
        clear HM2 HFo HF2
        go_wp2_with fail
        refine bodyPost_ret (results_ver rfl (.inl rfl) _ _ rfl (set3_blk B4r.out _ _ _)) rfl ?_
        refine HPost.out _ _ ?_
        rw [HM3.out]
        refine ⟨a, n, c, u.2.1, u.2.2, rfl, ?_, up_set3 (up_trans U3.out HU.out) HN2.out⟩
        intro v hv
        injection hv with hv
        subst hv
        refine ⟨?_, rfl, rfl⟩
        refine ((HO.out.mono U3.out.size).far (set3_grown wr N4 _ _ _) ?_)
        exact own_blk_ne HO.out.2 B4r.out (by decide)
end Go.Proofs.YtnchjlimkgbfpaaGreatDoor

namespace Go.Proofs.YtnchjlimkgbfpaaGreatDoor
open Go.RowKit
set_option linter.unusedVariables false
set_option linter.unusedSimpArgs false
set_option maxRecDepth 20000
theorem results_verT {fn : Func} {t : TypeId} {p q r : Nat} (h : fn.results = #[.cell p t, .tmp q, .tmp r]) (hl : t = 39 ∨ t = 28) (tmps : Array Value) (w : World) {N : Nat} {a b c : Value} (ht : tmps.getD p undef = .pointer (some ⟨N, 0, none⟩))
    (hc : w.heap[N]? = some (.cells #[a, b, c] t)) : (results fn tmps).run Tryz.prog w = .ok (.tuple #[.agg #[a, b, c], tmps.getD q undef, tmps.getD r undef]) w := by
  have c0 := blk_cell hc 0 a rfl
  have c1 := blk_cell hc 1 b rfl
  have c2 := blk_cell hc 2 c rfl
  have ht' : tmps[p]?.getD undef = .pointer (some ⟨N, 0, none⟩) := by simpa using ht
  rcases hl with rfl | rfl
  · simp only [results, h]
    simp [ht', go_sem, c0, c1, c2]
  · simp only [results, h]
    simp [ht', go_sem, c0, c1, c2]
def LoadE (w : World) (r : Vn × Int × Int) (e : Ending) (w' : World) : Prop := ∃ a n c s x, e = .returned (.tuple #[.agg #[.slice a n c, .int .i64 s, .int .i64 x], .int .i64 r.2.1, .int .i64 r.2.2]) ∧ Hid (VerP w' w.heap.size (some r.1) a n c s x) ∧ Hid (Below w.heap.size w w')
theorem verP_zero (w : World) (base : Nat) : VerP w base (some ([], 0, 0)) none 0 0 0 0 := by
  intro v hv
  injection hv with hv
  subst hv
  exact ⟨OwnR.nil _ _ _ _, rfl, rfl⟩
theorem load_eq (s : St) : loadP s = if (readP s curL).2 = 0 then (match curOf (readP s curL).1 with
    | none => (([], 0, 0), 0, 21)
    | some id => if (madeP s id).2 = 0 then (match (madeP s id).1 with
      | none => (([], 0, 0), 0, 21)
      | some v => (v, id, 0)) else (([], 0, 0), 0, (madeP s id).2)) else (([], 0, 0), 0, (readP s curL).2) := by
  unfold loadP madeP
  by_cases h : (readP s curL).2 = 0
  · rw [if_pos h, if_pos h]
    cases hc : curOf (readP s curL).1 with
    | none => rfl
    | some id =>
      simp only
      by_cases h2 : (readP s (nameN 109 id).1).2 = 0
      · rw [if_pos h2, if_pos h2]
        cases hm : madeM (readP s (nameN 109 id).1).1 with
        | none => simp
        | some v => simp
      · rw [if_neg h2, if_neg h2, if_neg h2]
  · rw [if_neg h, if_neg h]
theorem cur_range {b : List Int} {id : Int} (h : curOf b = some id) : idOk id = true := by
  unfold curOf at h
  split at h
  · rename_i q
    injection h with h
    rw [← h]
    simp [idOk, q.2.2.2.2.2.1, q.2.2.2.2.2.2]
  · cases h
theorem made_some {s : St} {id : Int} : (madeP s id).2 = 0 → ∃ v, (madeP s id).1 = some v := by
  unfold madeP
  intro h
  by_cases h2 : (readP s (nameN 109 id).1).2 = 0
  · rw [if_pos h2] at h ⊢
    cases hm : madeM (readP s (nameN 109 id).1).1 with
    | none => rw [hm] at h; simp at h
    | some v => exact ⟨v, rfl⟩
  · rw [if_neg h2] at h
    exact absurd h h2
set_option maxHeartbeats 4000000 in
theorem load_any (s : St) (v : Value) (w : World) (hv : StW w v s) (hl : s.names.length + s.safe.length ≤ 9223372036854775807) (ht : Tab w) :
    Calls Tryz.prog 19 #[v] w (LoadE w (loadP s)) := by
  obtain ⟨Post, hP⟩ : ∃ Post : Ending → World → Prop, Post = LoadE w (loadP s) := ⟨_, rfl⟩
  have HPost : Hid (∀ e w', LoadE w (loadP s) e w' → Post e w') := fun e w' h => by rw [hP]; exact h
  rw [← hP]
  clear hP
  obtain ⟨af, nf, cf, an, nn, cn, as', ns, cs', ev⟩ := hv.shape
  subst ev
  have HS : Hid (StW w (.agg #[.int .i64 s.cap, .slice af nf cf, .slice an nn cn, .slice as' ns cs', .int .i64 s.next]) s) := hv
  have HT : Hid (Tab w) := ht
  obtain ⟨w0, hw0⟩ : ∃ w0, w0 = (w.alloc (.cells #[.int .i64 s.cap, .slice af nf cf, .slice an nn cn, .slice as' ns cs', .int .i64 s.next] 35)).alloc (.cells #[.slice none 0 0, .int .i64 0, .int .i64 0] 39) := ⟨_, rfl⟩
  have HW0 : Hid ((w.alloc (.cells #[.int .i64 s.cap, .slice af nf cf, .slice an nn cn, .slice as' ns cs', .int .i64 s.next] 35)).alloc (.cells #[.slice none 0 0, .int .i64 0, .int .i64 0] 39) = w0) := hid hw0.symm
  have U0 : Hid (Below w.heap.size w w0) := by rw [hw0]; exact up_al (up_alloc _ _) _
  have sz1 : ∀ (W : World) (o : Obj), (W.alloc o).heap.size = W.heap.size + 1 := fun W o => by simp
  have B0 : Hid (w0.heap[w.heap.size]? = some (.cells #[.int .i64 s.cap, .slice af nf cf, .slice an nn cn, .slice as' ns cs', .int .i64 s.next] 35)) := by rw [hw0]; exact blk_up (blk_new _ _) (up_alloc _ _)
  have B2 : Hid (w0.heap[w.heap.size + 1]? = some (.cells #[.slice none 0 0, .int .i64 0, .int .i64 0] 39)) := by
    rw [hw0, ← sz1 w (.cells #[.int .i64 s.cap, .slice af nf cf, .slice an nn cn, .slice as' ns cs', .int .i64 s.next] 35)]
    exact blk_new _ _
  have hcoct : ∀ y ∈ curL, 0 ≤ y ∧ y ≤ 255 := by unfold curL; intro y hy; simp at hy; omega
  have HRd : Hid (Calls Tryz.prog 50 #[.agg #[.int .i64 s.cap, .slice af nf cf, .slice an nn cn, .slice as' ns cs', .int .i64 s.next], .string { data := #[67, 85, 82, 82, 69, 78, 84] }] w0 fun e w' => ∃ v', e = .returned (.tuple #[v', .int .i64 (readP s curL).2]) ∧ OwnB w' w0.heap.size v' (readP s curL).1 ∧ OctL (readP s curL).1 ∧ Below w0.heap.size w0 w') := read_any s curL hcoct _ w0 (HS.out.up U0.out) hl
  have HLd := hid (load_eq s)
  obtain ⟨b, hb⟩ : ∃ b, b = (readP s curL).1 := ⟨_, rfl⟩
  obtain ⟨er, her⟩ : ∃ er, er = (readP s curL).2 := ⟨_, rfl⟩
  rw [← hb, ← her] at HRd HLd
  have HMa : Hid (∀ id, idOk id = true → ∀ W, Below w.heap.size w W → Calls Tryz.prog 52 #[.agg #[.int .i64 s.cap, .slice af nf cf, .slice an nn cn, .slice as' ns cs', .int .i64 s.next], .int .i64 id] W fun e w' => ∃ a n c sx x, e = .returned (.tuple #[.agg #[.slice a n c, .int .i64 sx, .int .i64 x], .int .i64 (madeP s id).2]) ∧ Hid (VerP w' W.heap.size (madeP s id).1 a n c sx x) ∧ Hid (Below W.heap.size W w')) := fun id hi W hW => made_any s _ id hi W (HS.out.up hW) hl (HT.out.up hW)
  have HN2 : Hid (w.heap.size ≤ w.heap.size + 1) := Nat.le_succ _
  have x0 := blk_cell B0.out 0 _ rfl
  have x1 := blk_cell B0.out 1 _ rfl
  have x2 := blk_cell B0.out 2 _ rfl
  have x3 := blk_cell B0.out 3 _ rfl
  have x4 := blk_cell B0.out 4 _ rfl
  clear hw0 hv ht sz1 hb her hcoct
  go_enter Tryz.func19, Tryz.ntmps19
  go_upto_region 1 with fail
  rw [HW0.out]
  clear HW0
  generalize hNr : w.heap.size + 1 = N2 at *
  clear hNr
  go_wp2_with fail
  refine HRd.out.mono ?_
  rintro e w1 ⟨v1, rfl, o1, ol, b1⟩
  obtain ⟨a1, n1, c1, e1, -⟩ := own_shape o1
  subst e1
  have U1 : Hid (Below w.heap.size w w1) := up_trans U0.out b1
  have B01 : Hid (w1.heap[w.heap.size]? = some (.cells #[.int .i64 s.cap, .slice af nf cf, .slice an nn cn, .slice as' ns cs', .int .i64 s.next] 35)) := blk_up B0.out b1
  have B21 : Hid (w1.heap[N2]? = some (.cells #[.slice none 0 0, .int .i64 0, .int .i64 0] 39)) := blk_up B2.out b1
  have O1 : Hid (Octs w1 (.slice a1 n1 c1) b) := Octs.own o1 ol
  have HCu := hid (curID_any b (.slice a1 n1 c1) w1 O1.out)
  clear o1 ol b1 HRd x0 x1 x2 x3 x4 B0 B2
  by_cases q1 : er = 0
  case neg =>
    have q1b : (er != 0) = true := by simpa using q1
    have HL2 : Hid (loadP s = (([], 0, 0), 0, er)) := by rw [HLd.out, if_neg q1]; rfl
    have z0 := blk_cell B21.out 0 _ rfl
    have z1 := blk_cell B21.out 1 _ rfl
    have z2 := blk_cell B21.out 2 _ rfl
    have f0 := blk_frozen B21.out 0
    have f1 := blk_frozen B21.out 1
    have f2 := blk_frozen B21.out 2
    clear HLd q1
    go_wp2_with fail
    refine bodyPost_ret (results_verT rfl (.inl rfl) _ _ rfl (set3_blk B21.out _ _ _)) rfl ?_
    refine HPost.out _ _ ?_
    rw [HL2.out]
    exact ⟨_, _, _, _, _, rfl, verP_zero _ _, up_set3 U1.out HN2.out⟩
  subst q1
  have hl1 : loadP s = (match curOf b with
    | none => (([], 0, 0), 0, 21)
    | some id => if (madeP s id).2 = 0 then (match (madeP s id).1 with
      | none => (([], 0, 0), 0, 21)
      | some v => (v, id, 0)) else (([], 0, 0), 0, (madeP s id).2)) := by rw [HLd.out, if_pos rfl]
  have HL1 := hid hl1
  clear HLd hl1
  cases hcu : curOf b with
  | none =>
    have HL2 : Hid (loadP s = (([], 0, 0), 0, 21)) := by rw [HL1.out, hcu]; rfl
    rw [hcu] at HCu
    have hcr : curR none = .tuple #[.int .i64 0, .int .i64 21] := rfl
    rw [hcr] at HCu
    clear HL1 hcu hcr
    go_wp2_with fail
    refine HCu.out.mono ?_
    rintro e w2 ⟨rfl, b2⟩
    have U2 : Hid (Below w.heap.size w w2) := up_trans U1.out b2.out
    have B22 : Hid (w2.heap[N2]? = some (.cells #[.slice none 0 0, .int .i64 0, .int .i64 0] 39)) := blk_up B21.out b2.out
    have z0 := blk_cell B22.out 0 _ rfl
    have z1 := blk_cell B22.out 1 _ rfl
    have z2 := blk_cell B22.out 2 _ rfl
    have f0 := blk_frozen B22.out 0
    have f1 := blk_frozen B22.out 1
    have f2 := blk_frozen B22.out 2
    clear b2 HCu
    go_wp2_with fail
    refine bodyPost_ret (results_verT rfl (.inl rfl) _ _ rfl (set3_blk B22.out _ _ _)) rfl ?_
    refine HPost.out _ _ ?_
    rw [HL2.out]
    exact ⟨_, _, _, _, _, rfl, verP_zero _ _, up_set3 U2.out HN2.out⟩
  | some id =>
    have hl2 : loadP s = (if (madeP s id).2 = 0 then (match (madeP s id).1 with
      | none => (([], 0, 0), 0, 21)
      | some v => (v, id, 0)) else (([], 0, 0), 0, (madeP s id).2)) := by rw [HL1.out, hcu]
    have HL2 := hid hl2
    have HMa2 := hid (HMa.out id (cur_range hcu))
    have HMs := hid (@made_some s id)
    rw [hcu] at HCu
    have hcr : curR (some id) = .tuple #[.int .i64 id, .int .i64 0] := rfl
    rw [hcr] at HCu
    generalize madeP s id = R at *
    clear HL1 hcu hcr hl2 HMa
    go_wp2_with fail
    refine HCu.out.mono ?_
    rintro e w2 ⟨rfl, b2⟩
    have U2 : Hid (Below w.heap.size w w2) := up_trans U1.out b2.out
    have B22 : Hid (w2.heap[N2]? = some (.cells #[.slice none 0 0, .int .i64 0, .int .i64 0] 39)) := blk_up B21.out b2.out
    have x0 := blk_cell (blk_up B01.out b2.out) 0 _ rfl
    have x1 := blk_cell (blk_up B01.out b2.out) 1 _ rfl
    have x2 := blk_cell (blk_up B01.out b2.out) 2 _ rfl
    have x3 := blk_cell (blk_up B01.out b2.out) 3 _ rfl
    have x4 := blk_cell (blk_up B01.out b2.out) 4 _ rfl
    have HM2 := hid (HMa2.out w2 U2.out)
    clear b2 HCu HMa2
    go_wp2_with fail
    refine HM2.out.mono ?_
    rintro e w3 ⟨a3, n3, c3, s3, y3, rfl, HV3, b3⟩
    obtain ⟨w4, hw4⟩ : ∃ w4, w4 = w3.alloc (.cells #[.slice a3 n3 c3, .int .i64 s3, .int .i64 y3] 39) := ⟨_, rfl⟩
    have HW4 : Hid (w3.alloc (.cells #[.slice a3 n3 c3, .int .i64 s3, .int .i64 y3] 39) = w4) := hid hw4.symm
    have V4 : Hid (Below w3.heap.size w3 w4) := by rw [hw4]; exact up_alloc _ _
    have U4 : Hid (Below w.heap.size w w4) := up_trans U2.out (up_trans b3.out V4.out)
    have B24 : Hid (w4.heap[N2]? = some (.cells #[.slice none 0 0, .int .i64 0, .int .i64 0] 39)) := blk_up B22.out (up_trans b3.out V4.out)
    have B8 : Hid (w4.heap[w3.heap.size]? = some (.cells #[.slice a3 n3 c3, .int .i64 s3, .int .i64 y3] 39)) := by rw [hw4]; exact blk_new _ _
    have z0 := blk_cell B24.out 0 _ rfl
    have z1 := blk_cell B24.out 1 _ rfl
    have z2 := blk_cell B24.out 2 _ rfl
    have f0 := blk_frozen B24.out 0
    have f1 := blk_frozen B24.out 1
    have f2 := blk_frozen B24.out 2
    clear hw4 b3 HM2 x0 x1 x2 x3 x4
    go_upto_region 8 with fail
    rw [HW4.out]
    clear HW4
    by_cases q2 : R.2 = 0
    · obtain ⟨vr, hvr⟩ := HMs.out q2
      have HL3 : Hid (loadP s = (vr, id, 0)) := by rw [HL2.out, if_pos q2, hvr]; rfl
      obtain ⟨hO, hs, hy⟩ := HV3.out vr hvr
      have O4 : Hid (OwnR w4 w2.heap.size 148 5 (.slice a3 n3 c3) (vr.1.map meRow)) := hO.up V4.out
      have HSy := hid (And.intro hs hy)
      have p0 := blk_cell B8.out 0 _ rfl
      have p1 := blk_cell B8.out 1 _ rfl
      have p2 := blk_cell B8.out 2 _ rfl
      clear HL2 HMs hO hs hy hvr HV3
      go_wp2_with fail
      refine bodyPost_ret (results_verT rfl (.inl rfl) _ _ rfl (set3_blk B24.out _ _ _)) rfl ?_
      refine HPost.out _ _ ?_
      rw [HL3.out]
      refine ⟨a3, n3, c3, s3, y3, rfl, ?_, up_set3 U4.out HN2.out⟩
      intro v hv
      injection hv with hv
      subst hv
      refine ⟨?_, HSy.out.1, HSy.out.2⟩
      refine ((O4.out.mono U2.out.size).far (set3_grown w4 N2 _ _ _) ?_)
      exact own_blk_ne O4.out.2 B24.out (by decide)
    · have q2b : (R.2 != 0) = true := by simpa using q2
      have HL3 : Hid (loadP s = (([], 0, 0), 0, R.2)) := by rw [HL2.out, if_neg q2]; rfl
      clear HL2 HMs HV3 q2
      go_wp2_with fail
      refine bodyPost_ret (results_verT rfl (.inl rfl) _ _ rfl (set3_blk B24.out _ _ _)) rfl ?_
      refine HPost.out _ _ ?_
      rw [HL3.out]
      exact ⟨_, _, _, _, _, rfl, verP_zero _ _, up_set3 U4.out HN2.out⟩
end Go.Proofs.YtnchjlimkgbfpaaGreatDoor
