/- The texts P5, P6, in this order. -/
import Derived.Test.YtnchjlimkgbfpaaGreatDoorZ06

namespace Go.Proofs.YtnchjlimkgbfpaaGreatDoor
open Go.RowKit
set_option linter.unusedVariables false
set_option maxRecDepth 20000
def BoxW (w : World) (o : Obj) (w' : World) : Prop := Below (w.heap.size + 1) (w.alloc o) w'
theorem BoxW.start (w : World) (o : Obj) : BoxW w o (w.alloc o) := Below.refl _ _
theorem BoxW.size {w w' : World} {o : Obj} (h : BoxW w o w') : w.heap.size + 1 ≤ w'.heap.size := by
  have := Below.size h
  simpa using this
theorem BoxW.up {w w' : World} {o : Obj} (h : BoxW w o w') : Below w.heap.size w w' := (up_al (Below.refl _ _) o).trans (Below.mono h (by omega))
theorem BoxW.step {w w' w'' : World} {o : Obj} (h : BoxW w o w') (k : Below w'.heap.size w' w'') : BoxW w o w'' := Below.trans h (k.mono h.size)
theorem BoxW.cell {w w' : World} {cs : Array Value} {t : TypeId} (h : BoxW w (.cells cs t) w') (i : Nat) (x : Value) (hi : cs[i]? = some x) : w'.cell? ⟨w.heap.size, i, none⟩ = some x := by
  have e := World.cell?_alloc_new w cs t i
  rw [hi] at e
  exact (Below.cell h (p := ⟨w.heap.size, i, none⟩) (by simp)).trans e
def boundsOf (s : St) : Bool := decide (0 ≤ s.cap) && decide (s.cap ≤ 16777216) && decide (1 ≤ s.next) && decide (s.next ≤ 2147483647) && decide (s.files.length ≤ 256)
def prevId (l : List (Int × List Int × Int)) (k : Nat) : Int := if k = 0 then 0 else (l.getD (k - 1) (0, [], 0)).1
def okFile (l : List (Int × List Int × Int)) (next : Int) (k : Nat) : Bool :=
  decide (prevId l k < (l.getD k (0, [], 0)).1) && decide ((l.getD k (0, [], 0)).1 < next) && decide (0 ≤ (l.getD k (0, [], 0)).2.2) && decide ((l.getD k (0, [], 0)).2.2 ≤ (l.getD k (0, [], 0)).2.1.length)
def filesMayOf (s : St) : Bool := (List.range s.files.length).all (okFile s.files s.next) && decide (usedOf s.files ≤ s.cap)
theorem all_range_no {n : Nat} {p : Nat → Bool} (k : Nat) (h : k < n) (hn : p k = false) : (List.range n).all p = false := by
  rw [List.all_eq_false]
  exact ⟨k, List.mem_range.2 h, by rw [hn]; decide⟩
theorem all_range_yes {n : Nat} {p : Nat → Bool} (h : ∀ i, i < n → p i = true) : (List.range n).all p = true := by
  rw [List.all_eq_true]
  intro i hi
  exact h i (List.mem_range.1 hi)
theorem all_range_get {n : Nat} {p : Nat → Bool} (h : (List.range n).all p = true) (i : Nat) (hi : i < n) : p i = true := List.all_eq_true.1 h i (List.mem_range.2 hi)
set_option maxHeartbeats 1000000 in
theorem boundsMay_any (s : St) (v : Value) (w : World) (hv : StW w v s) :
    Calls Tryz.prog 109 #[v] w fun e w' => e = .returned (.bool (boundsOf s)) ∧ Below w.heap.size w w' := by
  obtain ⟨vf, vn, vs, rfl, hf, hn, hs, h1, h2⟩ := hv
  obtain ⟨a, cap, rfl, hcap, hmax⟩ := hf.len
  clear hf hn hs
  go_enter Tryz.func109, Tryz.ntmps109
  unfold boundsOf
  by_cases c1 : 0 ≤ s.cap
  · by_cases c2 : s.cap ≤ 16777216
    · by_cases c3 : 1 ≤ s.next
      · by_cases c4 : s.next ≤ 2147483647
        · by_cases c5 : s.files.length ≤ 256
          · have c5' : (s.files.length : Int) ≤ 256 := by omega
            go_wp2
            go_ret
            exact ⟨by simp [*] <;> omega, up_al (Below.refl _ _) _⟩
          · have c5' : ¬ (s.files.length : Int) ≤ 256 := by omega
            go_wp2
            go_ret
            exact ⟨by simp [*] <;> omega, up_al (Below.refl _ _) _⟩
        · go_wp2
          go_ret
          exact ⟨by simp [*] <;> omega, up_al (Below.refl _ _) _⟩
      · go_wp2
        go_ret
        exact ⟨by simp [*] <;> omega, up_al (Below.refl _ _) _⟩
    · go_wp2
      go_ret
      exact ⟨by simp [*] <;> omega, up_al (Below.refl _ _) _⟩
  · go_wp2
    go_ret
    exact ⟨by simp [*] <;> omega, up_al (Below.refl _ _) _⟩
set_option maxHeartbeats 1000000 in
theorem filesMay_any (s : St) (v : Value) (w : World) (hv : StW w v s) (hle : s.files.length ≤ 256) :
    Calls Tryz.prog 110 #[v] w fun e w' => e = .returned (.bool (filesMayOf s)) ∧ Below w.heap.size w w' := by
  obtain ⟨vf, vn, vs, rfl, hf, hn, hs, hic, hin⟩ := hv
  have HV : Hid (FilesW w vf s.files) := hf
  obtain ⟨a, cap, rfl, hcap, hmax⟩ := hf.len
  unfold maxLen at hmax
  clear hf hn hs
  have HNo : Hid (∀ k, k < s.files.length → okFile s.files s.next k = false → filesMayOf s = false) := by
    intro k hk h
    unfold filesMayOf
    rw [all_range_no k hk h]
    rfl
  have HYes : Hid ((∀ k, k < s.files.length → okFile s.files s.next k = true) → filesMayOf s = decide (usedOf s.files ≤ s.cap)) := by
    intro h
    unfold filesMayOf
    rw [all_range_yes h]
    rfl
  go_enter Tryz.func110, Tryz.ntmps110
  go_wp2
  go_loopw [3, 9] (fun last i wr => ∃ k : Nat, k ≤ s.files.length ∧ i = .int .i64 k ∧ last = .int .i64 (prevId s.files k) ∧ Hid (∀ j, j < k → okFile s.files s.next j = true) ∧ Hid (BoxW w (.cells #[.int .i64 s.cap, .slice a s.files.length cap, vn, vs, .int .i64 s.next] 35) wr)) (fun _ i _ => s.files.length - (intOf i).toNat)
  case atStart => exact ⟨0, Nat.zero_le _, rfl, rfl, (fun j hj => by omega), BoxW.start _ _⟩
  case round =>
    obtain ⟨k, hk, rfl, rfl, HK, bx⟩ := hrel
    have q0 := bx.out.cell 0 _ rfl
    have q1 := bx.out.cell 1 _ rfl
    have q4 := bx.out.cell 4 _ rfl
    have HF2 : Hid (FilesW wr (.slice a s.files.length cap) s.files) := HV.out.up bx.out.up
    by_cases hlt : k < s.files.length
    · have hlt' : (k : Int) < (s.files.length : Int) := by omega
      obtain ⟨b, off, cap', u, e, _, _, c0, c1, c2, ho, hdl, hi0, hi2⟩ := HF2.out.at k hlt
      simp at e
      obtain ⟨rfl, rfl⟩ := e
      have q4a : ∀ o, (wr.alloc o).cell? ⟨w.heap.size, 4, none⟩ = some (.int .i64 s.next) := fun o => (bx.out.step (up_al (Below.refl _ _) o)).cell 4 _ rfl
      have HN2 : Hid (okFile s.files s.next k = false → filesMayOf s = false) := HNo.out k hlt
      have HOk : Hid (okFile s.files s.next k = (decide (prevId s.files k < (s.files.getD k (0, [], 0)).1) && decide ((s.files.getD k (0, [], 0)).1 < s.next) && decide (0 ≤ (s.files.getD k (0, [], 0)).2.2) && decide ((s.files.getD k (0, [], 0)).2.2 ≤ (s.files.getD k (0, [], 0)).2.1.length))) := rfl
      have HP : Hid (prevId s.files (k + 1) = (s.files.getD k (0, [], 0)).1) := by simp [Hid, prevId]
      generalize s.files.getD k (0, [], 0) = y at *
      obtain ⟨yi, yd, ys⟩ := y
      simp only at c0 c1 c2 ho hdl hi0 hi2 HOk HP
      obtain ⟨au, capu, rfl, _⟩ := ho.slice
      clear ho
      generalize prevId s.files k = pv at *
      by_cases d1 : yi ≤ pv
      · have HR : Hid (filesMayOf s = false) := HN2.out (by rw [HOk.out]; simp; omega)
        go_wp2
        go_ret
        rw [HR.out]
        exact ⟨rfl, up_al bx.out.up _⟩
      · by_cases d2 : s.next ≤ yi
        · have HR : Hid (filesMayOf s = false) := HN2.out (by rw [HOk.out]; simp; omega)
          go_wp2
          go_ret
          rw [HR.out]
          exact ⟨rfl, up_al bx.out.up _⟩
        · by_cases d3 : ys < 0
          · have HR : Hid (filesMayOf s = false) := HN2.out (by rw [HOk.out]; simp; omega)
            go_wp2
            go_ret
            rw [HR.out]
            exact ⟨rfl, up_al bx.out.up _⟩
          · by_cases d4 : (yd.length : Int) < ys
            · have HR : Hid (filesMayOf s = false) := HN2.out (by rw [HOk.out]; simp; omega)
              go_wp2
              go_ret
              rw [HR.out]
              exact ⟨rfl, up_al bx.out.up _⟩
            · have HK2 : Hid (∀ j, j < k + 1 → okFile s.files s.next j = true) := by
                intro j hj
                rcases Nat.lt_or_ge j k with c | c
                · exact HK.out j c
                · obtain rfl : j = k := by omega
                  rw [HOk.out]
                  simp
                  omega
              go_wp2
              exact ⟨⟨k + 1, by omega, by go_num, by rw [HP.out], HK2, bx.out.step (up_al (Below.refl _ _) _)⟩, by simp [intOf]; omega⟩
    · have hlt' : ¬ (k : Int) < (s.files.length : Int) := by omega
      obtain rfl : k = s.files.length := by omega
      have HR : Hid (filesMayOf s = decide (usedOf s.files ≤ s.cap)) := HYes.out HK.out
      have p0 := cell_up q0
      have p1 := cell_up q1
      go_wp2_with fail
      refine wp_region_up (by kernel_rfl) (by kernel_rfl) ?_
      repeat (quiet_step ((go_at_call 151; refine calls_up (used_any s.files _ _ (HF2.out.up (UpW.up _)) hle))))
      refine wpQuiet_nil ?_
      intro _ hw'
      obtain ⟨p, hw''⟩ := hw'
      subst hw''
      go_wp2
      go_ret
      rw [HR.out]
      exact ⟨rfl, up_trans bx.out.up p.up⟩
end Go.Proofs.YtnchjlimkgbfpaaGreatDoor

namespace Go.Proofs.YtnchjlimkgbfpaaGreatDoor
open Go.RowKit
set_option linter.unusedVariables false
set_option maxRecDepth 20000
set_option linter.unusedSimpArgs false
def okNameP (fs : List (Int × List Int × Int)) (l : List (List Int × Int)) (i : Nat) : Bool :=
  mayOf (nameAt l i).1 && (decide (i = 0) || lessL (nameAt l (i - 1)).1 (nameAt l i).1) && thereF fs (nameAt l i).2
def namesMayOf (fs : List (Int × List Int × Int)) (l : List (List Int × Int)) : Bool := (List.range l.length).all (okNameP fs l) && decide ((idsOf l).length = l.length)
def allNamedOf (s : St) : Bool := decide ((idsOf (s.names ++ s.safe)).length = s.files.length)
theorem len_set {w : World} {b : Nat} {ids : List Int} (h : SetW w b ids) (ty : TypeId) : (Builtin.len_ #[233] ty #[.map (some b)]).run Tryz.prog w = .ok (.int .i64 (ids.length : Int)) w := by
  obtain ⟨D, h1, h2, h3, h4⟩ := h
  rw [h1.len Tryz.underlying233 ty, h3]
set_option maxHeartbeats 400000 in
theorem namesMay_any (fs : List (Int × List Int × Int)) (l : List (List Int × Int)) (vf v : Value) (w : World) (hf : FilesW w vf fs) (hv : NamesW w v l)
    (hl1 : fs.length ≤ 70368744177664) (hrf : RiseF fs) :
    Calls Tryz.prog 111 #[v, vf] w fun e w' => e = .returned (.bool (namesMayOf fs l)) ∧ Below w.heap.size w w' := by
  have HF : Hid (FilesW w vf fs) := hf
  have HL : Hid (NamesW w v l) := hv
  obtain ⟨a, cap, rfl, hcap, hmax⟩ := hv.len
  unfold maxLen at hmax
  clear hf hv
  have HNo : Hid (∀ k, k < l.length → okNameP fs l k = false → namesMayOf fs l = false) := by
    intro k hk h
    unfold namesMayOf
    rw [all_range_no k hk h]
    rfl
  have HYes : Hid ((∀ k, k < l.length → okNameP fs l k = true) → namesMayOf fs l = decide ((idsOf l).length = l.length)) := by
    intro h
    unfold namesMayOf
    rw [all_range_yes h]
    rfl
  go_enter Tryz.func111, Tryz.ntmps111
  go_wp2
  go_loopw [11] (fun i wr => ∃ k : Nat, k ≤ l.length ∧ i = .int .i64 k ∧ Hid (∀ j, j < k → okNameP fs l j = true) ∧ Hid (Below w.heap.size w wr)) (fun i _ => l.length - (intOf i).toNat)
  case atStart => exact ⟨0, Nat.zero_le _, rfl, (fun j hj => by omega), Below.refl _ _⟩
  case round =>
    obtain ⟨k, hk, rfl, HK, up⟩ := hrel
    by_cases hlt : k < l.length
    · have hlt' : (k : Int) < (l.length : Int) := by omega
      obtain ⟨b, off, cap', e, _, _, c0, c1, ho, hol, hi⟩ := (HL.out.up up.out).at k hlt
      simp at e
      obtain ⟨rfl, rfl⟩ := e
      have HN2 : Hid (okNameP fs l k = false → namesMayOf fs l = false) := HNo.out k hlt
      have HOk : Hid (okNameP fs l k = (mayOf (nameAt l k).1 && (decide (k = 0) || lessL (nameAt l (k - 1)).1 (nameAt l k).1) && thereF fs (nameAt l k).2)) := rfl
      have HY : Hid (l.getD k ([], 0) = nameAt l k) := rfl
      rw [HY.out] at c0 c1 ho hol hi
      obtain ⟨y, hy⟩ : ∃ y, y = nameAt l k := ⟨_, rfl⟩
      rw [← hy] at c0 c1 ho hol hi HOk
      have HYk : Hid (y = nameAt l k) := hy
      clear hy
      obtain ⟨ys, yi⟩ := y
      simp only at c0 c1 ho hol hi HOk
      have HO : Hid (OctL ys ∧ ys.length ≤ 140737488355328) := ⟨ho, hol⟩
      clear ho hol
      obtain ⟨wx, hwx⟩ : ∃ wx, wx = wr.alloc (.cells #[.string (strOfNums ys), .int .i64 yi] 146) := ⟨_, rfl⟩
      have upx : Hid (Below w.heap.size w wx) := by rw [hwx]; exact up_al up.out _
      have x0 : wx.cell? ⟨wr.heap.size, 0, none⟩ = some (.string (strOfNums ys)) := by rw [hwx]; exact World.cell?_alloc_new wr #[.string (strOfNums ys), .int .i64 yi] 146 0
      have x1 : wx.cell? ⟨wr.heap.size, 1, none⟩ = some (.int .i64 yi) := by rw [hwx]; exact World.cell?_alloc_new wr #[.string (strOfNums ys), .int .i64 yi] 146 1
      have HX : Hid (wr.alloc (.cells #[.string (strOfNums ys), .int .i64 yi] 146) = wx) := hwx.symm
      clear hwx
      go_upto_region 4 with fail
      rw [HX.out]
      clear HX
      obtain ⟨bad, hbad⟩ : ∃ bad : Bool, bad = (!(mayOf ys && (decide (k = 0) || lessL (nameAt l (k - 1)).1 ys))) := ⟨_, rfl⟩
      have HBad : Hid (bad = (!(mayOf ys && (decide (k = 0) || lessL (nameAt l (k - 1)).1 ys)))) := hbad
      clear hbad
      go_cut [34] from 16 to 34 (fun s34 wy => s34 = .bool bad ∧ Hid (Below wx.heap.size wx wy))
      case first =>
        have p0 := cell_up x0
        cases hm : mayOf ys
        · have HR : Hid (∀ w, Calls Tryz.prog 152 #[.string (strOfNums ys)] w fun e w' => e = .returned (.bool false) ∧ Below w.heap.size w w') := by
            have hr := nameMay_any ys HO.out.1 HO.out.2
            rw [hm] at hr
            exact hr
          have hb2 : bad = true := by rw [HBad.out, hm]; rfl
          subst hb2
          refine wp_region_up (by kernel_rfl) (by kernel_rfl) ?_
          repeat
            (with_reducible refine wpQuiet_step (fun K hK => ?_)
             go_simp
             first
               | (refine hK _ ?_; clear hK K)
               | (apply Exists.intro; refine ⟨fun _ => ?_, hK _ ?_⟩; go_at_call 152; refine calls_up (HR.out _); clear hK K))
          with_reducible refine wpQuiet_nil ?_
          intro _ hw'
          obtain ⟨p, hw''⟩ := hw'
          subst hw''
          go_wp2_with fail
          go_meet
          case rel => exact ⟨rfl, p.up⟩
        · have HR : Hid (∀ w, Calls Tryz.prog 152 #[.string (strOfNums ys)] w fun e w' => e = .returned (.bool true) ∧ Below w.heap.size w w') := by
            have hr := nameMay_any ys HO.out.1 HO.out.2
            rw [hm] at hr
            exact hr
          by_cases hk0 : k = 0
          · have hz : decide ((0 : Int) < (k : Int)) = false := by simp; omega
            have hz2 : ¬ (0 : Int) < (k : Int) := by omega
            have hz3 : decide (0 < k) = false := by simp; omega
            have hb2 : bad = false := by rw [HBad.out, hm, decide_eq_true hk0]; rfl
            subst hb2
            clear hk0
            refine wp_region_up (by kernel_rfl) (by kernel_rfl) ?_
            repeat
              (with_reducible refine wpQuiet_step (fun K hK => ?_)
               go_simp
               first
                 | (refine hK _ ?_; clear hK K)
                 | (apply Exists.intro; refine ⟨fun _ => ?_, hK _ ?_⟩; go_at_call 152; refine calls_up (HR.out _); clear hK K))
            with_reducible refine wpQuiet_nil ?_
            intro _ hw'
            obtain ⟨p, hw''⟩ := hw'
            subst hw''
            go_wp2_with fail
            go_meet
            case rel => exact ⟨rfl, p.up⟩
          · have hz : decide ((0 : Int) < (k : Int)) = true := by simp; omega
            have hz2 : (0 : Int) < (k : Int) := by omega
            have hz3 : decide (0 < k) = true := by simp; omega
            obtain ⟨j, rfl⟩ : ∃ j, k = j + 1 := ⟨k - 1, by omega⟩
            obtain ⟨b2, off2, cap2, e2, _, _, d0, d1, do', dol, di⟩ := (HL.out.up upx.out).at j (by omega)
            simp at e2
            obtain ⟨⟨rfl, rfl⟩, rfl⟩ := e2
            have HPv : Hid (l.getD j ([], 0) = nameAt l (j + 1 - 1)) := rfl
            rw [HPv.out] at d0 do'
            have r0 := cell_up d0
            have hj' : (j : Int) < (l.length : Int) := by omega
            have hw1 : IntKind.i64.wrap (j : Int) = (j : Int) := by rw [IntKind.wrap_i64]; omega
            have hcmp : (Op.bytesLess (strOfNums ys).toList (strOfNums (nameAt l (j + 1 - 1)).1).toList || (strOfNums ys).toList == (strOfNums (nameAt l (j + 1 - 1)).1).toList) = bad := by
              rw [str_less _ _ HO.out.1 do', str_eq _ _ HO.out.1 do', less_not, HBad.out, hm, decide_eq_false hk0]
              simp
            generalize (nameAt l (j + 1 - 1)).1 = ps at *
            refine wp_region_up (by kernel_rfl) (by kernel_rfl) ?_
            repeat
              (with_reducible refine wpQuiet_step (fun K hK => ?_)
               go_simp
               first
                 | (refine hK _ ?_; clear hK K)
                 | (apply Exists.intro; refine ⟨fun _ => ?_, hK _ ?_⟩; go_at_call 152; refine calls_up (HR.out _); clear hK K))
            with_reducible refine wpQuiet_nil ?_
            intro _ hw'
            obtain ⟨p, hw''⟩ := hw'
            subst hw''
            go_wp2_with fail
            go_meet
            case rel => exact ⟨rfl, p.up⟩
      case rest =>
      obtain ⟨rfl, HB2⟩ := hcut
      have up2 : Hid (Below w.heap.size w wc) := up_trans upx.out HB2.out
      cases hbad : bad
      · rw [hbad] at HBad
        have y1 : wc.cell? ⟨wr.heap.size, 1, none⟩ = some (.int .i64 yi) := (HB2.out.cell (World.block_lt_of_cell? wx _ x1)).trans x1
        have HF2 : Hid (FilesW wc vf fs) := HF.out.up up2.out
        have HGood : Hid ((mayOf ys && (decide (k = 0) || lessL (nameAt l (k - 1)).1 ys)) = true) := by
          have := HBad.out
          unfold Hid
          rw [← Bool.not_not (mayOf ys && _), ← this]
          rfl
        clear x0 x1 HBad
        cases hth : thereF fs yi with
        | false =>
          have HR : Hid (namesMayOf fs l = false) := HN2.out (by rw [HOk.out, hth, Bool.and_false])
          have HC : Hid (Calls Tryz.prog 131 #[vf, .int .i64 yi] wc fun e w' => e = .returned (.tuple #[.int .i64 (rankF fs yi), .bool false]) ∧ Below wc.heap.size wc w') := by
            have := numbered_any fs yi vf wc HF2.out hl1 hrf
            rw [hth] at this
            exact this
          clear hth
          go_wp2_with fail
          refine HC.out.mono ?_
          rintro e w1 ⟨rfl, hb1⟩
          have up1 : Hid (Below w.heap.size w w1) := up_trans up2.out hb1
          clear hb1
          go_wp2_with fail
          go_ret
          rw [HR.out]
          exact ⟨rfl, up1.out⟩
        | true =>
          have HK2 : Hid (∀ j, j < k + 1 → okNameP fs l j = true) := by
            intro j hj
            rcases Nat.lt_or_ge j k with c | c
            · exact HK.out j c
            · obtain rfl : j = k := by omega
              rw [HOk.out, HGood.out, hth]
              rfl
          have HC : Hid (Calls Tryz.prog 131 #[vf, .int .i64 yi] wc fun e w' => e = .returned (.tuple #[.int .i64 (rankF fs yi), .bool true]) ∧ Below wc.heap.size wc w') := by
            have := numbered_any fs yi vf wc HF2.out hl1 hrf
            rw [hth] at this
            exact this
          clear hth
          go_wp2_with fail
          refine HC.out.mono ?_
          rintro e w1 ⟨rfl, hb1⟩
          have up1 : Hid (Below w.heap.size w w1) := up_trans up2.out hb1
          clear hb1
          go_wp2_with fail
          exact ⟨⟨k + 1, by omega, by go_num, HK2, up1⟩, by simp [intOf]; omega⟩
      · rw [hbad] at HBad
        have HR : Hid (namesMayOf fs l = false) := by
          refine HN2.out ?_
          have := HBad.out
          rw [HOk.out]
          have e : (mayOf ys && (decide (k = 0) || lessL (nameAt l (k - 1)).1 ys)) = false := by
            rw [← Bool.not_not (mayOf ys && _), ← this]
            rfl
          rw [e, Bool.false_and]
        clear x0 x1 HBad
        go_wp2_with fail
        go_ret
        rw [HR.out]
        exact ⟨rfl, up2.out⟩
    · have hlt' : ¬ (k : Int) < (l.length : Int) := by omega
      obtain rfl : k = l.length := by omega
      have HR : Hid (namesMayOf fs l = decide ((idsOf l).length = l.length)) := HYes.out HK.out
      have HL2 : Hid (NamesW (wr.alloc (.cells #[.slice a l.length cap] 33)) (.slice a l.length cap) l) := HL.out.up (up_al up.out _)
      have HCx : Hid ((wr.alloc (.cells #[.slice a l.length cap] 33)).cell? ⟨wr.heap.size, 0, none⟩ = some (.slice a l.length cap)) := World.cell?_alloc_new wr #[.slice a l.length cap] 33 0
      go_wp2_with fail
      refine (numbers_any [(.slice a l.length cap, l)] wr.heap.size 1 _ (by simp) ?_ ?_ ?_).mono ?_
      · intro j hj
        simp at hj
        subst hj
        exact HCx.out
      · intro j hj
        simp at hj
        subst hj
        exact HL2.out
      · simp [allN, maxLen]
        omega
      · rintro e w1 ⟨rfl, hset, hb1⟩
        have up1 : Hid (Below w.heap.size w w1) := up_trans (up_al up.out _) hb1
        have hlen := len_set hset
        rw [show allN [(Value.slice a l.length cap, l)] = l by simp [allN]] at hlen
        clear hset hb1
        generalize (wr.alloc (.cells #[.slice a l.length cap] 33)).heap.size = mb at hlen ⊢
        go_wp2_with fail
        go_ret
        rw [HR.out]
        refine ⟨?_, up1.out⟩
        by_cases c : (idsOf l).length = l.length
        · simp [c]
        · have c' : ¬ ((idsOf l).length : Int) = (l.length : Int) := by omega
          simp [c, c']
set_option maxHeartbeats 1000000 in
theorem allNamed_any (s : St) (v : Value) (w : World) (hv : StW w v s) (hl : s.names.length + s.safe.length ≤ 9223372036854775807) :
    Calls Tryz.prog 112 #[v] w fun e w' => e = .returned (.bool (allNamedOf s)) ∧ Below w.heap.size w w' := by
  obtain ⟨vf, vn, vs, rfl, hf, hn, hs, hic, hin⟩ := hv
  obtain ⟨a, cap, rfl, hcap, hmax⟩ := hf.len
  unfold maxLen at hmax
  have HN : Hid (NamesW w vn s.names ∧ NamesW w vs s.safe) := ⟨hn, hs⟩
  obtain ⟨a1, cap1, e1, _, _⟩ := hn.len
  obtain ⟨a2, cap2, e2, _, _⟩ := hs.len
  clear hf hn hs
  subst e1
  subst e2
  obtain ⟨wx, hwx⟩ : ∃ wx, wx = w.alloc (.cells #[.int .i64 s.cap, .slice a s.files.length cap, .slice a1 s.names.length cap1, .slice a2 s.safe.length cap2, .int .i64 s.next] 35) := ⟨_, rfl⟩
  have bx : Hid (BoxW w (.cells #[.int .i64 s.cap, .slice a s.files.length cap, .slice a1 s.names.length cap1, .slice a2 s.safe.length cap2, .int .i64 s.next] 35) wx) := by rw [hwx]; exact BoxW.start _ _
  have q1 := bx.out.cell 1 _ rfl
  have q2 := bx.out.cell 2 _ rfl
  have q3 := bx.out.cell 3 _ rfl
  have HX : Hid (w.alloc (.cells #[.int .i64 s.cap, .slice a s.files.length cap, .slice a1 s.names.length cap1, .slice a2 s.safe.length cap2, .int .i64 s.next] 35) = wx) := hwx.symm
  clear hwx
  go_enter Tryz.func112, Tryz.ntmps112
  go_wp2_with fail
  rw [HX.out]
  have HC : Hid (∀ (W : World), Below wx.heap.size wx W → Calls Tryz.prog 148 #[.slice (some ⟨W.heap.size, 0, none⟩) 2 2] (W.alloc (.cells #[(.slice a1 s.names.length cap1), (.slice a2 s.safe.length cap2)] 33)) fun e w' => ∃ m, e = .returned (.map (some m)) ∧ (∀ ty, (Builtin.len_ #[233] ty #[.map (some m)]).run Tryz.prog w' = .ok (.int .i64 ((idsOf (s.names ++ s.safe)).length : Int)) w') ∧ w'.cell? ⟨w.heap.size, 1, none⟩ = some (.slice a s.files.length cap) ∧ w'.cell? ⟨w.heap.size, 2, none⟩ = some (.slice a1 s.names.length cap1) ∧ w'.cell? ⟨w.heap.size, 3, none⟩ = some (.slice a2 s.safe.length cap2) ∧ Hid (Below wx.heap.size wx w')) := by
    intro W hW
    have c0 := World.cell?_alloc_new W #[(.slice a1 s.names.length cap1), (.slice a2 s.safe.length cap2)] 33 0
    have c1 := World.cell?_alloc_new W #[(.slice a1 s.names.length cap1), (.slice a2 s.safe.length cap2)] 33 1
    have u1 : Below w.heap.size w (W.alloc (.cells #[(.slice a1 s.names.length cap1), (.slice a2 s.safe.length cap2)] 33)) := up_al (up_trans bx.out.up hW) _
    have := numbers_any [((.slice a1 s.names.length cap1), s.names), ((.slice a2 s.safe.length cap2), s.safe)] W.heap.size 2 (W.alloc (.cells #[(.slice a1 s.names.length cap1), (.slice a2 s.safe.length cap2)] 33)) (by simp) (by
        intro j hj
        have : j = 0 ∨ j = 1 := by simp at hj; omega
        rcases this with rfl | rfl
        · exact c0
        · exact c1) (by
        intro j hj
        have : j = 0 ∨ j = 1 := by simp at hj; omega
        rcases this with rfl | rfl
        · exact HN.out.1.up u1
        · exact HN.out.2.up u1) (by simp [allN, maxLen]; omega)
    refine this.mono ?_
    rintro e w1 ⟨rfl, hset, hb1⟩
    have e1 : allN [(Value.slice a1 s.names.length cap1, s.names), (Value.slice a2 s.safe.length cap2, s.safe)] = s.names ++ s.safe := by simp [allN]
    rw [e1] at hset
    have hW2 := up_trans hW (up_trans (up_al (Below.refl _ _) _) hb1)
    have bw := bx.out.step hW2
    exact ⟨_, rfl, len_set hset, bw.cell 1 _ rfl, bw.cell 2 _ rfl, bw.cell 3 _ rfl, hW2⟩
  have n1 := World.new_ne wx _ q1
  refine wp_region_held_drew (S := (fun w' => w'.cell? ⟨w.heap.size, 1, none⟩ = some (.slice a s.files.length cap) ∧ w'.cell? ⟨w.heap.size, 2, none⟩ = some (.slice a1 s.names.length cap1) ∧ w'.cell? ⟨w.heap.size, 3, none⟩ = some (.slice a2 s.safe.length cap2))) (by kernel_rfl) (by (try dsimp only); go_keep) (fun hHeld => ?_)
  refine wpAnyH_take (i := 0) (v := ?_) rfl (by kernel_rfl) (by kernel_rfl) (by kernel_rfl) (fun _ _ _ h => h) (Or.inl ⟨by kernel_rfl, ?_⟩) (by assumption) ?_
  rotate_left
  focus (intro w hSw; (try dsimp only at hSw); go_simp; (try with_reducible rfl); done)
  try simp only [Act.put, List.getElem_toArray, List.getElem_cons_zero, List.getElem_cons_succ, List.setIfInBounds_toArray, List.set_cons_zero, List.set_cons_succ]
  refine wpAnyH_take (i := 1) (v := ?_) rfl (by kernel_rfl) (by kernel_rfl) (by kernel_rfl) (fun _ _ _ h => h) (Or.inl ⟨by kernel_rfl, ?_⟩) (by assumption) ?_
  rotate_left
  focus (intro w hSw; (try dsimp only at hSw); go_simp; (try with_reducible rfl); done)
  try simp only [Act.put, List.getElem_toArray, List.getElem_cons_zero, List.getElem_cons_succ, List.setIfInBounds_toArray, List.set_cons_zero, List.set_cons_succ]
  refine wpAnyH_take (i := 2) (v := ?_) rfl (by kernel_rfl) (by kernel_rfl) (by kernel_rfl) (fun _ _ _ h => h) (Or.inl ⟨by kernel_rfl, ?_⟩) (by assumption) ?_
  rotate_left
  focus (intro w hSw; (try dsimp only at hSw); go_simp; (try with_reducible rfl); done)
  try simp only [Act.put, List.getElem_toArray, List.getElem_cons_zero, List.getElem_cons_succ, List.setIfInBounds_toArray, List.set_cons_zero, List.set_cons_succ]
  refine wpAnyH_take (i := 3) (v := ?_) rfl (by kernel_rfl) (by kernel_rfl) (by kernel_rfl) (fun _ _ _ h => h) (Or.inl ⟨by kernel_rfl, ?_⟩) (by assumption) ?_
  rotate_left
  focus (intro w hSw; (try dsimp only at hSw); go_simp; (try with_reducible rfl); done)
  try simp only [Act.put, List.getElem_toArray, List.getElem_cons_zero, List.getElem_cons_succ, List.setIfInBounds_toArray, List.set_cons_zero, List.set_cons_succ]
  refine wpAnyH_take (i := 7) (v := ?_) rfl (by kernel_rfl) (by kernel_rfl) (by kernel_rfl) (fun _ _ _ h => h) (Or.inl ⟨by kernel_rfl, ?_⟩) (by assumption) ?_
  rotate_left
  focus (intro w hSw; (try dsimp only at hSw); go_simp; (try with_reducible rfl); done)
  try simp only [Act.put, List.getElem_toArray, List.getElem_cons_zero, List.getElem_cons_succ, List.setIfInBounds_toArray, List.set_cons_zero, List.set_cons_succ]
  refine wpAnyH_take (i := 8) (v := ?_) rfl (by kernel_rfl) (by kernel_rfl) (by kernel_rfl) (fun _ _ _ h => h) (Or.inl ⟨by kernel_rfl, ?_⟩) (by assumption) ?_
  rotate_left
  focus (intro w hSw; (try dsimp only at hSw); go_simp; (try with_reducible rfl); done)
  try simp only [Act.put, List.getElem_toArray, List.getElem_cons_zero, List.getElem_cons_succ, List.setIfInBounds_toArray, List.set_cons_zero, List.set_cons_succ]
  refine wpAnyH_take (i := 9) (v := ?_) rfl (by kernel_rfl) (by kernel_rfl) (by kernel_rfl) (fun _ _ _ h => h) (Or.inl ⟨by kernel_rfl, ?_⟩) (by assumption) ?_
  rotate_left
  focus (intro w hSw; (try dsimp only at hSw); go_simp; (try with_reducible rfl); done)
  try simp only [Act.put, List.getElem_toArray, List.getElem_cons_zero, List.getElem_cons_succ, List.setIfInBounds_toArray, List.set_cons_zero, List.set_cons_succ]
  refine wpAnyH_ready (rs := [4]) (by kernel_rfl) (by simp) ?_
  refine AllReadyH.cons rfl (fun K hK => ?_) AllReadyH.nil
  go_simp
  go_wp2_with fail
  refine hK.out _ _ (by (try dsimp only); go_keep) (fun hHeld => ?_)
  clear hK K
  try simp only [Act.put, List.getElem_toArray, List.getElem_cons_zero, List.getElem_cons_succ, List.setIfInBounds_toArray, List.set_cons_zero, List.set_cons_succ]
  refine wpAnyH_ready (rs := [5]) (by kernel_rfl) (by simp) ?_
  refine AllReadyH.cons rfl (fun K hK => ?_) AllReadyH.nil
  go_simp
  refine (HC.out _ (up_dr (Below.refl _ _))).mono ?_
  rintro e w' ⟨m, rfl, hlen, z1, z2, z3, hb⟩
  go_wp2_with fail
  refine hK.out _ _ (by (try dsimp only); go_keep) (fun hHeld => ?_)
  clear hK K
  try simp only [Act.put, List.getElem_toArray, List.getElem_cons_zero, List.getElem_cons_succ, List.setIfInBounds_toArray, List.set_cons_zero, List.set_cons_succ]
  refine wpAnyH_ready (rs := [6]) (by kernel_rfl) (by simp) ?_
  refine AllReadyH.cons rfl (fun K hK => ?_) AllReadyH.nil
  go_simp
  go_wp2_with fail
  refine hK.out _ _ (by (try dsimp only); go_keep) (fun hHeld => ?_)
  clear hK K
  try simp only [Act.put, List.getElem_toArray, List.getElem_cons_zero, List.getElem_cons_succ, List.setIfInBounds_toArray, List.set_cons_zero, List.set_cons_succ]
  refine wpAnyH_take (i := 10) (v := ?_) rfl (by kernel_rfl) (by kernel_rfl) (by kernel_rfl) (fun _ _ _ h => h) (Or.inl ⟨by kernel_rfl, ?_⟩) (by assumption) ?_
  rotate_left
  focus (intro w hSw; (try dsimp only at hSw); go_simp; (try with_reducible rfl); done)
  try simp only [Act.put, List.getElem_toArray, List.getElem_cons_zero, List.getElem_cons_succ, List.setIfInBounds_toArray, List.set_cons_zero, List.set_cons_succ]
  refine wpAnyH_take (i := 11) (v := ?_) rfl (by kernel_rfl) (by kernel_rfl) (by kernel_rfl) (fun _ _ _ h => h) (Or.inl ⟨by kernel_rfl, ?_⟩) (by assumption) ?_
  rotate_left
  focus (intro w hSw; (try dsimp only at hSw); go_simp; (try with_reducible rfl); done)
  try simp only [Act.put, List.getElem_toArray, List.getElem_cons_zero, List.getElem_cons_succ, List.setIfInBounds_toArray, List.set_cons_zero, List.set_cons_succ]
  refine wpAnyH_done (by kernel_rfl) ?_ _
  go_wp2_with fail
  go_ret
  refine ⟨?_, up_trans bx.out.up hb.out⟩
  unfold allNamedOf
  by_cases c : (idsOf (s.names ++ s.safe)).length = s.files.length
  · simp [c]
  · have c' : ¬ ((idsOf (s.names ++ s.safe)).length : Int) = (s.files.length : Int) := by omega
    simp [c, c']
end Go.Proofs.YtnchjlimkgbfpaaGreatDoor
