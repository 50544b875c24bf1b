/- The texts P6, P7, P8, in this order. -/
import Derived.Test.YtnchjlimkgbfpaaGreatDoorE19
import Derived.Test.YtnchjlimkgbfpaaGreatDoorE10
import Derived.Test.YtnchjlimkgbfpaaGreatDoorE02

namespace Go.Proofs.YtnchjlimkgbfpaaGreatDoor
open Go.RowKit
set_option linter.unusedVariables false
set_option maxRecDepth 20000
set_option linter.unusedSimpArgs false
def okNameP (fs : List (Int × List Int × Int)) (l : List (List Int × Int)) (i : Nat) : Bool :=
  mayOf (nameAt l i).1 && (decide (i = 0) || lessL (nameAt l (i - 1)).1 (nameAt l i).1) && thereF fs (nameAt l i).2
def namesMayOf (fs : List (Int × List Int × Int)) (l : List (List Int × Int)) : Bool := (List.range l.length).all (okNameP fs l) && decide ((idsOf l).length = l.length)
def allNamedOf (s : St) : Bool := decide ((idsOf (s.names ++ s.safe)).length = s.files.length)
theorem len_set {w : World} {b : Nat} {ids : List Int} (h : SetW w b ids) (ty : TypeId) : (Builtin.len_ #[233] ty #[.map (some b)]).run Tryz.prog w = .ok (.int .i64 (ids.length : Int)) w := by
  obtain ⟨D, h1, h2, h3, h4⟩ := h
  rw [h1.len Tryz.underlying233 ty, h3]
set_option maxHeartbeats 400000 in
theorem namesMay_any (fs : List (Int × List Int × Int)) (l : List (List Int × Int)) (vf v : Value) (w : World) (hf : FilesW w vf fs) (hv : NamesW w v l)
    (hl1 : fs.length ≤ 70368744177664) (hrf : RiseF fs) :
    Calls Tryz.prog 111 #[v, vf] w fun e w' => e = .returned (.bool (namesMayOf fs l)) ∧ Below w.heap.size w w' := by
  have HF : Hid (FilesW w vf fs) := hf
  have HL : Hid (NamesW w v l) := hv
  obtain ⟨a, cap, rfl, hcap, hmax⟩ := hv.len
  unfold maxLen at hmax
  clear hf hv
  have HNo : Hid (∀ k, k < l.length → okNameP fs l k = false → namesMayOf fs l = false) := by
    intro k hk h
    unfold namesMayOf
    rw [all_range_no k hk h]
    rfl
  have HYes : Hid ((∀ k, k < l.length → okNameP fs l k = true) → namesMayOf fs l = decide ((idsOf l).length = l.length)) := by
    intro h
    unfold namesMayOf
    rw [all_range_yes h]
    rfl
  go_enter Tryz.func111, Tryz.ntmps111
  go_wp2
  go_loopw [11] (fun i wr => ∃ k : Nat, k ≤ l.length ∧ i = .int .i64 k ∧ Hid (∀ j, j < k → okNameP fs l j = true) ∧ Hid (Below w.heap.size w wr)) (fun i _ => l.length - (intOf i).toNat)
  case atStart => exact ⟨0, Nat.zero_le _, rfl, (fun j hj => by omega), Below.refl _ _⟩
  case round =>
    obtain ⟨k, hk, rfl, HK, up⟩ := hrel
    by_cases hlt : k < l.length
    · have hlt' : (k : Int) < (l.length : Int) := by omega
      obtain ⟨b, off, cap', e, _, _, c0, c1, ho, hol, hi⟩ := (HL.out.up up.out).at k hlt
      simp at e
      obtain ⟨rfl, rfl⟩ := e
      have HN2 : Hid (okNameP fs l k = false → namesMayOf fs l = false) := HNo.out k hlt
      have HOk : Hid (okNameP fs l k = (mayOf (nameAt l k).1 && (decide (k = 0) || lessL (nameAt l (k - 1)).1 (nameAt l k).1) && thereF fs (nameAt l k).2)) := rfl
      have HY : Hid (l.getD k ([], 0) = nameAt l k) := rfl
      rw [HY.out] at c0 c1 ho hol hi
      obtain ⟨y, hy⟩ : ∃ y, y = nameAt l k := ⟨_, rfl⟩
      rw [← hy] at c0 c1 ho hol hi HOk
      have HYk : Hid (y = nameAt l k) := hy
      clear hy
      obtain ⟨ys, yi⟩ := y
      simp only at c0 c1 ho hol hi HOk
      have HO : Hid (OctL ys ∧ ys.length ≤ 140737488355328) := ⟨ho, hol⟩
      clear ho hol
      obtain ⟨wx, hwx⟩ : ∃ wx, wx = wr.alloc (.cells #[.string (strOfNums ys), .int .i64 yi] 146) := ⟨_, rfl⟩
      have upx : Hid (Below w.heap.size w wx) := by rw [hwx]; exact up_al up.out _
      have x0 : wx.cell? ⟨wr.heap.size, 0, none⟩ = some (.string (strOfNums ys)) := by rw [hwx]; exact World.cell?_alloc_new wr #[.string (strOfNums ys), .int .i64 yi] 146 0
      have x1 : wx.cell? ⟨wr.heap.size, 1, none⟩ = some (.int .i64 yi) := by rw [hwx]; exact World.cell?_alloc_new wr #[.string (strOfNums ys), .int .i64 yi] 146 1
      have HX : Hid (wr.alloc (.cells #[.string (strOfNums ys), .int .i64 yi] 146) = wx) := hwx.symm
      clear hwx
      go_upto_region 4 with fail
      rw [HX.out]
      clear HX
      obtain ⟨bad, hbad⟩ : ∃ bad : Bool, bad = (!(mayOf ys && (decide (k = 0) || lessL (nameAt l (k - 1)).1 ys))) := ⟨_, rfl⟩
      have HBad : Hid (bad = (!(mayOf ys && (decide (k = 0) || lessL (nameAt l (k - 1)).1 ys)))) := hbad
      clear hbad
      go_cut [34] from 16 to 34 (fun s34 wy => s34 = .bool bad ∧ Hid (Below wx.heap.size wx wy))
      case first =>
        have p0 := cell_up x0
        cases hm : mayOf ys
        · have HR : Hid (∀ w, Calls Tryz.prog 152 #[.string (strOfNums ys)] w fun e w' => e = .returned (.bool false) ∧ Below w.heap.size w w') := by
            have hr := nameMay_any ys HO.out.1 HO.out.2
            rw [hm] at hr
            exact hr
          have hb2 : bad = true := by rw [HBad.out, hm]; rfl
          subst hb2
          refine wp_region_up (by kernel_rfl) (by kernel_rfl) ?_
          repeat
            (with_reducible refine wpQuiet_step (fun K hK => ?_)
             go_simp
             first
               | (refine hK _ ?_; clear hK K)
               | (apply Exists.intro; refine ⟨fun _ => ?_, hK _ ?_⟩; go_at_call 152; refine calls_up (HR.out _); clear hK K))
          with_reducible refine wpQuiet_nil ?_
          intro _ hw'
          obtain ⟨p, hw''⟩ := hw'
          subst hw''
          go_wp2_with fail
          go_meet
          case rel => exact ⟨rfl, p.up⟩
        · have HR : Hid (∀ w, Calls Tryz.prog 152 #[.string (strOfNums ys)] w fun e w' => e = .returned (.bool true) ∧ Below w.heap.size w w') := by
            have hr := nameMay_any ys HO.out.1 HO.out.2
            rw [hm] at hr
            exact hr
          by_cases hk0 : k = 0
          · have hz : decide ((0 : Int) < (k : Int)) = false := by simp; omega
            have hz2 : ¬ (0 : Int) < (k : Int) := by omega
            have hz3 : decide (0 < k) = false := by simp; omega
            have hb2 : bad = false := by rw [HBad.out, hm, decide_eq_true hk0]; rfl
            subst hb2
            clear hk0
            refine wp_region_up (by kernel_rfl) (by kernel_rfl) ?_
            repeat
              (with_reducible refine wpQuiet_step (fun K hK => ?_)
               go_simp
               first
                 | (refine hK _ ?_; clear hK K)
                 | (apply Exists.intro; refine ⟨fun _ => ?_, hK _ ?_⟩; go_at_call 152; refine calls_up (HR.out _); clear hK K))
            with_reducible refine wpQuiet_nil ?_
            intro _ hw'
            obtain ⟨p, hw''⟩ := hw'
            subst hw''
            go_wp2_with fail
            go_meet
            case rel => exact ⟨rfl, p.up⟩
          · have hz : decide ((0 : Int) < (k : Int)) = true := by simp; omega
            have hz2 : (0 : Int) < (k : Int) := by omega
            have hz3 : decide (0 < k) = true := by simp; omega
            obtain ⟨j, rfl⟩ : ∃ j, k = j + 1 := ⟨k - 1, by omega⟩
            obtain ⟨b2, off2, cap2, e2, _, _, d0, d1, do', dol, di⟩ := (HL.out.up upx.out).at j (by omega)
            simp at e2
            obtain ⟨⟨rfl, rfl⟩, rfl⟩ := e2
            have HPv : Hid (l.getD j ([], 0) = nameAt l (j + 1 - 1)) := rfl
            rw [HPv.out] at d0 do'
            have r0 := cell_up d0
            have hj' : (j : Int) < (l.length : Int) := by omega
            have hw1 : IntKind.i64.wrap (j : Int) = (j : Int) := by rw [IntKind.wrap_i64]; omega
            have hcmp : (Op.bytesLess (strOfNums ys).toList (strOfNums (nameAt l (j + 1 - 1)).1).toList || (strOfNums ys).toList == (strOfNums (nameAt l (j + 1 - 1)).1).toList) = bad := by
              rw [str_less _ _ HO.out.1 do', str_eq _ _ HO.out.1 do', less_not, HBad.out, hm, decide_eq_false hk0]
              simp
            generalize (nameAt l (j + 1 - 1)).1 = ps at *
            refine wp_region_up (by kernel_rfl) (by kernel_rfl) ?_
            repeat
              (with_reducible refine wpQuiet_step (fun K hK => ?_)
               go_simp
               first
                 | (refine hK _ ?_; clear hK K)
                 | (apply Exists.intro; refine ⟨fun _ => ?_, hK _ ?_⟩; go_at_call 152; refine calls_up (HR.out _); clear hK K))
            with_reducible refine wpQuiet_nil ?_
            intro _ hw'
            obtain ⟨p, hw''⟩ := hw'
            subst hw''
            go_wp2_with fail
            go_meet
            case rel => exact ⟨rfl, p.up⟩
      case rest =>
      obtain ⟨rfl, HB2⟩ := hcut
      have up2 : Hid (Below w.heap.size w wc) := up_trans upx.out HB2.out
      cases hbad : bad
      · rw [hbad] at HBad
        have y1 : wc.cell? ⟨wr.heap.size, 1, none⟩ = some (.int .i64 yi) := (HB2.out.cell (World.block_lt_of_cell? wx _ x1)).trans x1
        have HF2 : Hid (FilesW wc vf fs) := HF.out.up up2.out
        have HGood : Hid ((mayOf ys && (decide (k = 0) || lessL (nameAt l (k - 1)).1 ys)) = true) := by
          have := HBad.out
          unfold Hid
          rw [← Bool.not_not (mayOf ys && _), ← this]
          rfl
        clear x0 x1 HBad
        cases hth : thereF fs yi with
        | false =>
          have HR : Hid (namesMayOf fs l = false) := HN2.out (by rw [HOk.out, hth, Bool.and_false])
          have HC : Hid (Calls Tryz.prog 131 #[vf, .int .i64 yi] wc fun e w' => e = .returned (.tuple #[.int .i64 (rankF fs yi), .bool false]) ∧ Below wc.heap.size wc w') := by
            have := numbered_any fs yi vf wc HF2.out hl1 hrf
            rw [hth] at this
            exact this
          clear hth
          go_wp2_with fail
          refine HC.out.mono ?_
          rintro e w1 ⟨rfl, hb1⟩
          have up1 : Hid (Below w.heap.size w w1) := up_trans up2.out hb1
          clear hb1
          go_wp2_with fail
          go_ret
          rw [HR.out]
          exact ⟨rfl, up1.out⟩
        | true =>
          have HK2 : Hid (∀ j, j < k + 1 → okNameP fs l j = true) := by
            intro j hj
            rcases Nat.lt_or_ge j k with c | c
            · exact HK.out j c
            · obtain rfl : j = k := by omega
              rw [HOk.out, HGood.out, hth]
              rfl
          have HC : Hid (Calls Tryz.prog 131 #[vf, .int .i64 yi] wc fun e w' => e = .returned (.tuple #[.int .i64 (rankF fs yi), .bool true]) ∧ Below wc.heap.size wc w') := by
            have := numbered_any fs yi vf wc HF2.out hl1 hrf
            rw [hth] at this
            exact this
          clear hth
          go_wp2_with fail
          refine HC.out.mono ?_
          rintro e w1 ⟨rfl, hb1⟩
          have up1 : Hid (Below w.heap.size w w1) := up_trans up2.out hb1
          clear hb1
          go_wp2_with fail
          exact ⟨⟨k + 1, by omega, by go_num, HK2, up1⟩, by simp [intOf]; omega⟩
      · rw [hbad] at HBad
        have HR : Hid (namesMayOf fs l = false) := by
          refine HN2.out ?_
          have := HBad.out
          rw [HOk.out]
          have e : (mayOf ys && (decide (k = 0) || lessL (nameAt l (k - 1)).1 ys)) = false := by
            rw [← Bool.not_not (mayOf ys && _), ← this]
            rfl
          rw [e, Bool.false_and]
        clear x0 x1 HBad
        go_wp2_with fail
        go_ret
        rw [HR.out]
        exact ⟨rfl, up2.out⟩
    · have hlt' : ¬ (k : Int) < (l.length : Int) := by omega
      obtain rfl : k = l.length := by omega
      have HR : Hid (namesMayOf fs l = decide ((idsOf l).length = l.length)) := HYes.out HK.out
      have HL2 : Hid (NamesW (wr.alloc (.cells #[.slice a l.length cap] 33)) (.slice a l.length cap) l) := HL.out.up (up_al up.out _)
      have HCx : Hid ((wr.alloc (.cells #[.slice a l.length cap] 33)).cell? ⟨wr.heap.size, 0, none⟩ = some (.slice a l.length cap)) := World.cell?_alloc_new wr #[.slice a l.length cap] 33 0
      go_wp2_with fail
      refine (numbers_any [(.slice a l.length cap, l)] wr.heap.size 1 _ (by simp) ?_ ?_ ?_).mono ?_
      · intro j hj
        simp at hj
        subst hj
        exact HCx.out
      · intro j hj
        simp at hj
        subst hj
        exact HL2.out
      · simp [allN, maxLen]
        omega
      · rintro e w1 ⟨rfl, hset, hb1⟩
        have up1 : Hid (Below w.heap.size w w1) := up_trans (up_al up.out _) hb1
        have hlen := len_set hset
        rw [show allN [(Value.slice a l.length cap, l)] = l by simp [allN]] at hlen
        clear hset hb1
        generalize (wr.alloc (.cells #[.slice a l.length cap] 33)).heap.size = mb at hlen ⊢
        go_wp2_with fail
        go_ret
        rw [HR.out]
        refine ⟨?_, up1.out⟩
        by_cases c : (idsOf l).length = l.length
        · simp [c]
        · have c' : ¬ ((idsOf l).length : Int) = (l.length : Int) := by omega
          simp [c, c']
set_option maxHeartbeats 1000000 in
theorem allNamed_any (s : St) (v : Value) (w : World) (hv : StW w v s) (hl : s.names.length + s.safe.length ≤ 9223372036854775807) :
    Calls Tryz.prog 112 #[v] w fun e w' => e = .returned (.bool (allNamedOf s)) ∧ Below w.heap.size w w' := by
  obtain ⟨vf, vn, vs, rfl, hf, hn, hs, hic, hin⟩ := hv
  obtain ⟨a, cap, rfl, hcap, hmax⟩ := hf.len
  unfold maxLen at hmax
  have HN : Hid (NamesW w vn s.names ∧ NamesW w vs s.safe) := ⟨hn, hs⟩
  obtain ⟨a1, cap1, e1, _, _⟩ := hn.len
  obtain ⟨a2, cap2, e2, _, _⟩ := hs.len
  clear hf hn hs
  subst e1
  subst e2
  obtain ⟨wx, hwx⟩ : ∃ wx, wx = w.alloc (.cells #[.int .i64 s.cap, .slice a s.files.length cap, .slice a1 s.names.length cap1, .slice a2 s.safe.length cap2, .int .i64 s.next] 35) := ⟨_, rfl⟩
  have bx : Hid (BoxW w (.cells #[.int .i64 s.cap, .slice a s.files.length cap, .slice a1 s.names.length cap1, .slice a2 s.safe.length cap2, .int .i64 s.next] 35) wx) := by rw [hwx]; exact BoxW.start _ _
  have q1 := bx.out.cell 1 _ rfl
  have q2 := bx.out.cell 2 _ rfl
  have q3 := bx.out.cell 3 _ rfl
  have HX : Hid (w.alloc (.cells #[.int .i64 s.cap, .slice a s.files.length cap, .slice a1 s.names.length cap1, .slice a2 s.safe.length cap2, .int .i64 s.next] 35) = wx) := hwx.symm
  clear hwx
  go_enter Tryz.func112, Tryz.ntmps112
  go_wp2_with fail
  rw [HX.out]
  have HC : Hid (∀ (W : World), Below wx.heap.size wx W → Calls Tryz.prog 148 #[.slice (some ⟨W.heap.size, 0, none⟩) 2 2] (W.alloc (.cells #[(.slice a1 s.names.length cap1), (.slice a2 s.safe.length cap2)] 33)) fun e w' => ∃ m, e = .returned (.map (some m)) ∧ (∀ ty, (Builtin.len_ #[233] ty #[.map (some m)]).run Tryz.prog w' = .ok (.int .i64 ((idsOf (s.names ++ s.safe)).length : Int)) w') ∧ w'.cell? ⟨w.heap.size, 1, none⟩ = some (.slice a s.files.length cap) ∧ w'.cell? ⟨w.heap.size, 2, none⟩ = some (.slice a1 s.names.length cap1) ∧ w'.cell? ⟨w.heap.size, 3, none⟩ = some (.slice a2 s.safe.length cap2) ∧ Hid (Below wx.heap.size wx w')) := by
    intro W hW
    have c0 := World.cell?_alloc_new W #[(.slice a1 s.names.length cap1), (.slice a2 s.safe.length cap2)] 33 0
    have c1 := World.cell?_alloc_new W #[(.slice a1 s.names.length cap1), (.slice a2 s.safe.length cap2)] 33 1
    have u1 : Below w.heap.size w (W.alloc (.cells #[(.slice a1 s.names.length cap1), (.slice a2 s.safe.length cap2)] 33)) := up_al (up_trans bx.out.up hW) _
    have := numbers_any [((.slice a1 s.names.length cap1), s.names), ((.slice a2 s.safe.length cap2), s.safe)] W.heap.size 2 (W.alloc (.cells #[(.slice a1 s.names.length cap1), (.slice a2 s.safe.length cap2)] 33)) (by simp) (by
        intro j hj
        have : j = 0 ∨ j = 1 := by simp at hj; omega
        rcases this with rfl | rfl
        · exact c0
        · exact c1) (by
        intro j hj
        have : j = 0 ∨ j = 1 := by simp at hj; omega
        rcases this with rfl | rfl
        · exact HN.out.1.up u1
        · exact HN.out.2.up u1) (by simp [allN, maxLen]; omega)
    refine this.mono ?_
    rintro e w1 ⟨rfl, hset, hb1⟩
    have e1 : allN [(Value.slice a1 s.names.length cap1, s.names), (Value.slice a2 s.safe.length cap2, s.safe)] = s.names ++ s.safe := by simp [allN]
    rw [e1] at hset
    have hW2 := up_trans hW (up_trans (up_al (Below.refl _ _) _) hb1)
    have bw := bx.out.step hW2
    exact ⟨_, rfl, len_set hset, bw.cell 1 _ rfl, bw.cell 2 _ rfl, bw.cell 3 _ rfl, hW2⟩
  have n1 := World.new_ne wx _ q1
  refine wp_region_held_drew (S := (fun w' => w'.cell? ⟨w.heap.size, 1, none⟩ = some (.slice a s.files.length cap) ∧ w'.cell? ⟨w.heap.size, 2, none⟩ = some (.slice a1 s.names.length cap1) ∧ w'.cell? ⟨w.heap.size, 3, none⟩ = some (.slice a2 s.safe.length cap2))) (by kernel_rfl) (by (try dsimp only); go_keep) (fun hHeld => ?_)
  refine wpAnyH_take (i := 0) (v := ?_) rfl (by kernel_rfl) (by kernel_rfl) (by kernel_rfl) (fun _ _ _ h => h) (Or.inl ⟨by kernel_rfl, ?_⟩) (by assumption) ?_
  rotate_left
  focus (intro w hSw; (try dsimp only at hSw); go_simp; (try with_reducible rfl); done)
  try simp only [Act.put, List.getElem_toArray, List.getElem_cons_zero, List.getElem_cons_succ, List.setIfInBounds_toArray, List.set_cons_zero, List.set_cons_succ]
  refine wpAnyH_take (i := 1) (v := ?_) rfl (by kernel_rfl) (by kernel_rfl) (by kernel_rfl) (fun _ _ _ h => h) (Or.inl ⟨by kernel_rfl, ?_⟩) (by assumption) ?_
  rotate_left
  focus (intro w hSw; (try dsimp only at hSw); go_simp; (try with_reducible rfl); done)
  try simp only [Act.put, List.getElem_toArray, List.getElem_cons_zero, List.getElem_cons_succ, List.setIfInBounds_toArray, List.set_cons_zero, List.set_cons_succ]
  refine wpAnyH_take (i := 2) (v := ?_) rfl (by kernel_rfl) (by kernel_rfl) (by kernel_rfl) (fun _ _ _ h => h) (Or.inl ⟨by kernel_rfl, ?_⟩) (by assumption) ?_
  rotate_left
  focus (intro w hSw; (try dsimp only at hSw); go_simp; (try with_reducible rfl); done)
  try simp only [Act.put, List.getElem_toArray, List.getElem_cons_zero, List.getElem_cons_succ, List.setIfInBounds_toArray, List.set_cons_zero, List.set_cons_succ]
  refine wpAnyH_take (i := 3) (v := ?_) rfl (by kernel_rfl) (by kernel_rfl) (by kernel_rfl) (fun _ _ _ h => h) (Or.inl ⟨by kernel_rfl, ?_⟩) (by assumption) ?_
  rotate_left
  focus (intro w hSw; (try dsimp only at hSw); go_simp; (try with_reducible rfl); done)
  try simp only [Act.put, List.getElem_toArray, List.getElem_cons_zero, List.getElem_cons_succ, List.setIfInBounds_toArray, List.set_cons_zero, List.set_cons_succ]
  refine wpAnyH_take (i := 7) (v := ?_) rfl (by kernel_rfl) (by kernel_rfl) (by kernel_rfl) (fun _ _ _ h => h) (Or.inl ⟨by kernel_rfl, ?_⟩) (by assumption) ?_
  rotate_left
  focus (intro w hSw; (try dsimp only at hSw); go_simp; (try with_reducible rfl); done)
  try simp only [Act.put, List.getElem_toArray, List.getElem_cons_zero, List.getElem_cons_succ, List.setIfInBounds_toArray, List.set_cons_zero, List.set_cons_succ]
  refine wpAnyH_take (i := 8) (v := ?_) rfl (by kernel_rfl) (by kernel_rfl) (by kernel_rfl) (fun _ _ _ h => h) (Or.inl ⟨by kernel_rfl, ?_⟩) (by assumption) ?_
  rotate_left
  focus (intro w hSw; (try dsimp only at hSw); go_simp; (try with_reducible rfl); done)
  try simp only [Act.put, List.getElem_toArray, List.getElem_cons_zero, List.getElem_cons_succ, List.setIfInBounds_toArray, List.set_cons_zero, List.set_cons_succ]
  refine wpAnyH_take (i := 9) (v := ?_) rfl (by kernel_rfl) (by kernel_rfl) (by kernel_rfl) (fun _ _ _ h => h) (Or.inl ⟨by kernel_rfl, ?_⟩) (by assumption) ?_
  rotate_left
  focus (intro w hSw; (try dsimp only at hSw); go_simp; (try with_reducible rfl); done)
  try simp only [Act.put, List.getElem_toArray, List.getElem_cons_zero, List.getElem_cons_succ, List.setIfInBounds_toArray, List.set_cons_zero, List.set_cons_succ]
  refine wpAnyH_ready (rs := [4]) (by kernel_rfl) (by simp) ?_
  refine AllReadyH.cons rfl (fun K hK => ?_) AllReadyH.nil
  go_simp
  go_wp2_with fail
  refine hK.out _ _ (by (try dsimp only); go_keep) (fun hHeld => ?_)
  clear hK K
  try simp only [Act.put, List.getElem_toArray, List.getElem_cons_zero, List.getElem_cons_succ, List.setIfInBounds_toArray, List.set_cons_zero, List.set_cons_succ]
  refine wpAnyH_ready (rs := [5]) (by kernel_rfl) (by simp) ?_
  refine AllReadyH.cons rfl (fun K hK => ?_) AllReadyH.nil
  go_simp
  refine (HC.out _ (up_dr (Below.refl _ _))).mono ?_
  rintro e w' ⟨m, rfl, hlen, z1, z2, z3, hb⟩
  go_wp2_with fail
  refine hK.out _ _ (by (try dsimp only); go_keep) (fun hHeld => ?_)
  clear hK K
  try simp only [Act.put, List.getElem_toArray, List.getElem_cons_zero, List.getElem_cons_succ, List.setIfInBounds_toArray, List.set_cons_zero, List.set_cons_succ]
  refine wpAnyH_ready (rs := [6]) (by kernel_rfl) (by simp) ?_
  refine AllReadyH.cons rfl (fun K hK => ?_) AllReadyH.nil
  go_simp
  go_wp2_with fail
  refine hK.out _ _ (by (try dsimp only); go_keep) (fun hHeld => ?_)
  clear hK K
  try simp only [Act.put, List.getElem_toArray, List.getElem_cons_zero, List.getElem_cons_succ, List.setIfInBounds_toArray, List.set_cons_zero, List.set_cons_succ]
  refine wpAnyH_take (i := 10) (v := ?_) rfl (by kernel_rfl) (by kernel_rfl) (by kernel_rfl) (fun _ _ _ h => h) (Or.inl ⟨by kernel_rfl, ?_⟩) (by assumption) ?_
  rotate_left
  focus (intro w hSw; (try dsimp only at hSw); go_simp; (try with_reducible rfl); done)
  try simp only [Act.put, List.getElem_toArray, List.getElem_cons_zero, List.getElem_cons_succ, List.setIfInBounds_toArray, List.set_cons_zero, List.set_cons_succ]
  refine wpAnyH_take (i := 11) (v := ?_) rfl (by kernel_rfl) (by kernel_rfl) (by kernel_rfl) (fun _ _ _ h => h) (Or.inl ⟨by kernel_rfl, ?_⟩) (by assumption) ?_
  rotate_left
  focus (intro w hSw; (try dsimp only at hSw); go_simp; (try with_reducible rfl); done)
  try simp only [Act.put, List.getElem_toArray, List.getElem_cons_zero, List.getElem_cons_succ, List.setIfInBounds_toArray, List.set_cons_zero, List.set_cons_succ]
  refine wpAnyH_done (by kernel_rfl) ?_ _
  go_wp2_with fail
  go_ret
  refine ⟨?_, up_trans bx.out.up hb.out⟩
  unfold allNamedOf
  by_cases c : (idsOf (s.names ++ s.safe)).length = s.files.length
  · simp [c]
  · have c' : ¬ ((idsOf (s.names ++ s.safe)).length : Int) = (s.files.length : Int) := by omega
    simp [c, c']
end Go.Proofs.YtnchjlimkgbfpaaGreatDoor

namespace Go.Proofs.YtnchjlimkgbfpaaGreatDoor
open Go.RowKit
set_option linter.unusedVariables false
set_option maxRecDepth 20000
def checkP (s : St) : Bool := boundsOf s && filesMayOf s && namesMayOf s.files s.names && namesMayOf s.files s.safe && allNamedOf s
def errOf (b : Bool) : Int := if b then 0 else 9
theorem rise_of_ok {l : List (Int × List Int × Int)} {next : Int} (h : ∀ k, k < l.length → okFile l next k = true) : RiseF l := by
  intro a b hab hb
  induction b with
  | zero => omega
  | succ b ih =>
    have h1 := h (b + 1) hb
    unfold okFile prevId at h1
    simp only [Bool.and_eq_true, decide_eq_true_eq] at h1
    have h2 : (l.getD b (0, [], 0)).1 < (l.getD (b + 1) (0, [], 0)).1 := by simpa using h1.1.1.1
    rcases Nat.lt_or_ge a b with c | c
    · have := ih c (by omega)
      omega
    · obtain rfl : a = b := by omega
      exact h2
theorem filesMay_ok {s : St} (h : filesMayOf s = true) : ∀ k, k < s.files.length → okFile s.files s.next k = true := by
  unfold filesMayOf at h
  rw [Bool.and_eq_true] at h
  exact all_range_get h.1
theorem filesMay_rise {s : St} (h : filesMayOf s = true) : RiseF s.files := rise_of_ok (filesMay_ok h)
theorem bounds_len {s : St} (h : boundsOf s = true) : s.files.length ≤ 256 := by
  unfold boundsOf at h
  simp only [Bool.and_eq_true, decide_eq_true_eq] at h
  exact h.2
set_option maxHeartbeats 1000000 in
theorem check_any (s : St) (v : Value) (w : World) (hv : StW w v s) (hl : s.names.length + s.safe.length ≤ 9223372036854775807) :
    Calls Tryz.prog 70 #[v] w fun e w' => e = .returned (.int .i64 (errOf (checkP s))) ∧ Below w.heap.size w w' := by
  have HV : Hid (StW w v s) := hv
  obtain ⟨vf, vn, vs, rfl, hf, hn, hs, hic, hin⟩ := hv
  have HF : Hid (FilesW w vf s.files ∧ NamesW w vn s.names ∧ NamesW w vs s.safe) := ⟨hf, hn, hs⟩
  clear hf hn hs
  obtain ⟨wx, hwx⟩ : ∃ wx, wx = w.alloc (.cells #[.int .i64 s.cap, vf, vn, vs, .int .i64 s.next] 35) := ⟨_, rfl⟩
  have bx : Hid (BoxW w (.cells #[.int .i64 s.cap, vf, vn, vs, .int .i64 s.next] 35) wx) := by rw [hwx]; exact BoxW.start _ _
  have q0 := bx.out.cell 0 _ rfl
  have q1 := bx.out.cell 1 _ rfl
  have q2 := bx.out.cell 2 _ rfl
  have q3 := bx.out.cell 3 _ rfl
  have q4 := bx.out.cell 4 _ rfl
  have HX : Hid (w.alloc (.cells #[.int .i64 s.cap, vf, vn, vs, .int .i64 s.next] 35) = wx) := hwx.symm
  clear hwx
  go_enter Tryz.func70, Tryz.ntmps70
  go_upto_region 1 with fail
  rw [HX.out]
  have c1 := boundsMay_any s _ wx (HV.out.up bx.out.up)
  cases h1 : boundsOf s with
  | false =>
    have HE : Hid (checkP s = false) := by unfold Hid checkP; rw [h1]; rfl
    rw [h1] at c1
    clear h1
    go_wp2_with fail
    refine c1.mono ?_
    rintro e w1 ⟨rfl, hb1⟩
    have up1 : Hid (Below w.heap.size w w1) := up_trans bx.out.up hb1
    clear hb1 c1
    go_wp2_with fail
    go_ret
    rw [HE.out]
    exact ⟨rfl, up1.out⟩
  | true =>
    rw [h1] at c1
    have hlen := bounds_len h1
    go_wp2_with fail
    refine c1.mono ?_
    rintro e w1 ⟨rfl, hb1⟩
    have b1 := bx.out.step hb1
    have bx1 : Hid (BoxW w (.cells #[.int .i64 s.cap, vf, vn, vs, .int .i64 s.next] 35) w1) := b1
    clear hb1 c1 b1 q0 q1 q2 q3 q4
    have q0 := bx1.out.cell 0 _ rfl
    have q1 := bx1.out.cell 1 _ rfl
    have q2 := bx1.out.cell 2 _ rfl
    have q3 := bx1.out.cell 3 _ rfl
    have q4 := bx1.out.cell 4 _ rfl
    have c2 := filesMay_any s _ w1 (HV.out.up bx1.out.up) hlen
    cases h2 : filesMayOf s with
    | false =>
      have HE : Hid (checkP s = false) := by unfold Hid checkP; rw [h2]; simp
      rw [h2] at c2
      clear h1 h2
      go_wp2_with fail
      refine c2.mono ?_
      rintro e w2 ⟨rfl, hb2⟩
      have up2 : Hid (Below w.heap.size w w2) := up_trans bx1.out.up hb2
      clear hb2 c2
      go_wp2_with fail
      go_ret
      rw [HE.out]
      exact ⟨rfl, up2.out⟩
    | true =>
      rw [h2] at c2
      have HRi : Hid (RiseF s.files) := filesMay_rise h2
      go_wp2_with fail
      refine c2.mono ?_
      rintro e w2 ⟨rfl, hb2⟩
      have b2 := bx1.out.step hb2
      have bx2 : Hid (BoxW w (.cells #[.int .i64 s.cap, vf, vn, vs, .int .i64 s.next] 35) w2) := b2
      clear hb2 c2 b2 q0 q1 q2 q3 q4
      have q0 := bx2.out.cell 0 _ rfl
      have q1 := bx2.out.cell 1 _ rfl
      have q2 := bx2.out.cell 2 _ rfl
      have q3 := bx2.out.cell 3 _ rfl
      have q4 := bx2.out.cell 4 _ rfl
      have c3 := namesMay_any s.files s.names vf vn w2 (HF.out.1.up bx2.out.up) (HF.out.2.1.up bx2.out.up) (by omega) HRi.out
      cases h3 : namesMayOf s.files s.names with
      | false =>
        have HE : Hid (checkP s = false) := by unfold Hid checkP; rw [h3]; simp
        rw [h3] at c3
        clear h1 h2 h3
        go_wp2_with fail
        refine c3.mono ?_
        rintro e w3 ⟨rfl, hb3⟩
        have up3 : Hid (Below w.heap.size w w3) := up_trans bx2.out.up hb3
        clear hb3 c3
        go_wp2_with fail
        go_ret
        rw [HE.out]
        exact ⟨rfl, up3.out⟩
      | true =>
        rw [h3] at c3
        go_wp2_with fail
        refine c3.mono ?_
        rintro e w3 ⟨rfl, hb3⟩
        have b3 := bx2.out.step hb3
        have bx3 : Hid (BoxW w (.cells #[.int .i64 s.cap, vf, vn, vs, .int .i64 s.next] 35) w3) := b3
        clear hb3 c3 b3 q0 q1 q2 q3 q4
        have q0 := bx3.out.cell 0 _ rfl
        have q1 := bx3.out.cell 1 _ rfl
        have q2 := bx3.out.cell 2 _ rfl
        have q3 := bx3.out.cell 3 _ rfl
        have q4 := bx3.out.cell 4 _ rfl
        have c4 := namesMay_any s.files s.safe vf vs w3 (HF.out.1.up bx3.out.up) (HF.out.2.2.up bx3.out.up) (by omega) HRi.out
        cases h4 : namesMayOf s.files s.safe with
        | false =>
          have HE : Hid (checkP s = false) := by unfold Hid checkP; rw [h4]; simp
          rw [h4] at c4
          clear h1 h2 h3 h4
          go_wp2_with fail
          refine c4.mono ?_
          rintro e w4 ⟨rfl, hb4⟩
          have up4 : Hid (Below w.heap.size w w4) := up_trans bx3.out.up hb4
          clear hb4 c4
          go_wp2_with fail
          go_ret
          rw [HE.out]
          exact ⟨rfl, up4.out⟩
        | true =>
          rw [h4] at c4
          go_wp2_with fail
          refine c4.mono ?_
          rintro e w4 ⟨rfl, hb4⟩
          have b4 := bx3.out.step hb4
          have bx4 : Hid (BoxW w (.cells #[.int .i64 s.cap, vf, vn, vs, .int .i64 s.next] 35) w4) := b4
          clear hb4 c4 b4 q0 q1 q2 q3 q4
          have q0 := bx4.out.cell 0 _ rfl
          have q1 := bx4.out.cell 1 _ rfl
          have q2 := bx4.out.cell 2 _ rfl
          have q3 := bx4.out.cell 3 _ rfl
          have q4 := bx4.out.cell 4 _ rfl
          have c5 := allNamed_any s _ w4 (HV.out.up bx4.out.up) hl
          have HE : Hid (checkP s = allNamedOf s) := by unfold Hid checkP; rw [h1, h2, h3, h4]; rfl
          clear h1 h2 h3 h4
          cases h5 : allNamedOf s with
          | false =>
            rw [h5] at c5 HE
            clear h5
            go_wp2_with fail
            refine c5.mono ?_
            rintro e w5 ⟨rfl, hb5⟩
            have up5 : Hid (Below w.heap.size w w5) := up_trans bx4.out.up hb5
            clear hb5 c5
            go_wp2_with fail
            go_ret
            rw [HE.out]
            exact ⟨rfl, up5.out⟩
          | true =>
            rw [h5] at c5 HE
            clear h5
            go_wp2_with fail
            refine c5.mono ?_
            rintro e w5 ⟨rfl, hb5⟩
            have up5 : Hid (Below w.heap.size w w5) := up_trans bx4.out.up hb5
            clear hb5 c5
            go_wp2_with fail
            go_ret
            rw [HE.out]
            exact ⟨rfl, up5.out⟩
end Go.Proofs.YtnchjlimkgbfpaaGreatDoor

namespace Go.Proofs.YtnchjlimkgbfpaaGreatDoor
open Go.RowKit
set_option linter.unusedVariables false
set_option maxRecDepth 20000
theorem apart_new {w w' : World} {b1 : Nat} {e1 e2 : TypeId} {s1 s2 : Nat} {v1 v2 : Value} {n1 n2 : Nat} {x1 x2 : List Value} (h1 : w.ownsRow b1 e1 s1 v1 n1 x1) (h2 : w'.ownsRow w.heap.size e2 s2 v2 n2 x2) : Apart v1 v2 := by
  unfold Apart
  cases hv : v1.ownBlock with
  | none => exact .inl rfl
  | some b =>
    refine .inr ?_
    intro q
    have a1 := (h1.lt b hv).2
    have a2 := (h2.lt b q.symm).1
    omega
theorem OwnN.far {w w' : World} {base : Nat} {e : TypeId} {v : Value} {l : List (List Int × Int)} {r : Option Nat} (h : OwnN w base e v l) (hg : w.grownBy w' r) (hne : v.ownBlock = none ∨ v.ownBlock ≠ r) : OwnN w' base e v l := ⟨h.1, h.2.far hg hne⟩
theorem OwnN.mono {w : World} {base base' : Nat} {e : TypeId} {v : Value} {l : List (List Int × Int)} (h : OwnN w base e v l) (hb : base' ≤ base) : OwnN w base' e v l := ⟨h.1, h.2.mono hb⟩
abbrev FRow := Value × Int × List Int × Int
def okRow (y : FRow) : Prop := OctL y.2.2.1 ∧ y.2.2.1.length ≤ 140737488355328 ∧ In64 y.2.1 ∧ In64 y.2.2.2
def OwnF (w : World) (base : Nat) (v : Value) (m : List FRow) : Prop :=
  OwnR w base 110 3 v (m.map frow) ∧ (∀ y ∈ m, OwnB w base y.1 y.2.2.1 ∧ okRow y) ∧ m.Pairwise (fun y z => Apart y.1 z.1)
theorem OwnB.up {w w' : World} {base : Nat} {v : Value} {l : List Int} (h : OwnB w base v l) (hb : Below w.heap.size w w') : OwnB w' base v l := own_up h hb
theorem OwnB.far {w w' : World} {base : Nat} {v : Value} {l : List Int} {r : Option Nat} (h : OwnB w base v l) (hg : w.grownBy w' r) (hne : v.ownBlock = none ∨ v.ownBlock ≠ r) : OwnB w' base v l := World.ownsRow.kept h hg hne
theorem OwnF.up {w w' : World} {base : Nat} {v : Value} {m : List FRow} (h : OwnF w base v m) (hb : Below w.heap.size w w') : OwnF w' base v m :=
  ⟨h.1.up hb, fun y hy => ⟨(h.2.1 y hy).1.up hb, (h.2.1 y hy).2⟩, h.2.2⟩
theorem OwnF.far {w w' : World} {base : Nat} {v : Value} {m : List FRow} {r : Option Nat} (h : OwnF w base v m) (hg : w.grownBy w' r) (h1 : v.ownBlock = none ∨ v.ownBlock ≠ r) (h2 : ∀ y ∈ m, y.1.ownBlock = none ∨ y.1.ownBlock ≠ r) : OwnF w' base v m :=
  ⟨h.1.far hg h1, fun y hy => ⟨(h.2.1 y hy).1.far hg (h2 y hy), (h.2.1 y hy).2⟩, h.2.2⟩
theorem OwnF.mono {w : World} {base base' : Nat} {v : Value} {m : List FRow} (h : OwnF w base v m) (hb : base' ≤ base) : OwnF w base' v m :=
  ⟨h.1.mono hb, fun y hy => ⟨(h.2.1 y hy).1.mono hb, (h.2.1 y hy).2⟩, h.2.2⟩
theorem FilesW.own {w : World} {base : Nat} {v : Value} {m : List FRow} (h : OwnF w base v m) : FilesW w v (m.map (·.2)) :=
  ⟨m, rfl, Rws.own h.1, fun y hy => ⟨Octs.own (h.2.1 y hy).1 (h.2.1 y hy).2.1, (h.2.1 y hy).2.2⟩⟩
def OwnV (w : World) (base : Nat) (v : Value) (s : St) : Prop := ∃ vf vn vs m, v = .agg #[.int .i64 s.cap, vf, vn, vs, .int .i64 s.next] ∧ m.map (·.2) = s.files ∧ OwnF w base vf m ∧ OwnN w base 146 vn s.names ∧ OwnN w base 146 vs s.safe ∧ Apart vn vs ∧ In64 s.cap ∧ In64 s.next
theorem OwnV.up {w w' : World} {base : Nat} {v : Value} {s : St} (h : OwnV w base v s) (hb : Below w.heap.size w w') : OwnV w' base v s := by
  obtain ⟨vf, vn, vs, m, e, hm, h1, h2, h3, h4⟩ := h
  exact ⟨vf, vn, vs, m, e, hm, h1.up hb, h2.up hb, h3.up hb, h4⟩
theorem StW.own {w : World} {base : Nat} {v : Value} {s : St} (h : OwnV w base v s) : StW w v s := by
  obtain ⟨vf, vn, vs, m, e, hm, h1, h2, h3, _, h5, h6⟩ := h
  exact ⟨vf, vn, vs, e, by rw [← hm]; exact FilesW.own h1, NamesW.own h2, NamesW.own h3, h5, h6⟩
theorem OwnV.mono {w : World} {base base' : Nat} {v : Value} {s : St} (h : OwnV w base v s) (hb : base' ≤ base) : OwnV w base' v s := by
  obtain ⟨vf, vn, vs, m, e, hm, h1, h2, h3, h4⟩ := h
  exact ⟨vf, vn, vs, m, e, hm, h1.mono hb, h2.mono hb, h3.mono hb, h4⟩
theorem Tryz.info146 : (Tryz.prog.info? 146).map (fun i => (i.zero, i.size, i.bytes)) = some (some (.agg #[.string ⟨#[]⟩, .int .i64 0]), 2, 24) := by kernel_rfl
theorem Tryz.info110 : (Tryz.prog.info? 110).map (fun i => (i.zero, i.size, i.bytes)) = some (some (.agg #[.int .i64 0, .slice none 0 0, .int .i64 0]), 3, 40) := by kernel_rfl
set_option maxHeartbeats 400000 in
theorem freshB_any (l : List Int) (v : Value) (w : World) (hv : Octs w v l) (hl : l.length ≤ 140737488355328) :
    Calls Tryz.prog 88 #[v] w fun e w' => ∃ v', e = .returned v' ∧ OwnB w' w.heap.size v' l ∧ Below w.heap.size w w' := by
  have HV : Hid (Octs w v l) := hv
  clear hv
  go_enter Tryz.func88, Tryz.ntmps88
  go_wp2_with (at_builtin; refine wpList_append_octs _ rfl _ _ rfl w.heap.size _ [] rfl (OwnB.nil _ _) _ l rfl HV.out ?c1 (Nat.le_refl _) ?_)
  try case c1 => (simp only [List.length_nil]; omega)
  intro v' w' hown hg
  go_wp2
  go_ret
  refine ⟨_, rfl, hown, ?_⟩
  exact (Below.refl _ _).grown hg (Nat.le_refl _) (by simp [Value.ownBlock])
end Go.Proofs.YtnchjlimkgbfpaaGreatDoor
