
import Derived.Test.YtnchjlimkgbfpaaGreatDoorU1
namespace Go.Proofs.YtnchjlimkgbfpaaGreatDoor
open Go.RowKit
set_option linter.unusedVariables false
set_option maxRecDepth 20000
def allR (s : St) : Bool := (List.range s.files.length).all (okR s) && namesOf s.files s.names && namesOf s.files s.safe
theorem cell_al {w w2 : World} {a : Addr} {v : Value} (hu : Below w.heap.size w w2) (h : w.cell? a = some v) (p : UpW w2) : p.val.cell? a = some v :=
  ((up_trans hu p.up).cell (World.block_lt_of_cell? w a h)).trans h
set_option maxHeartbeats 8000000 in
set_option maxRecDepth 20000 in
theorem refCheck_rest (s : St) (v : Value) (w : World) (hv : StW w v s) (hh : headR s = true) :
    Calls Tryz.prog 39 #[v] w fun e w' => e = .returned (.int .i64 (errOf (allR s))) ∧ Below w.heap.size w w' := by
  obtain ⟨vf, vn, vs, rfl, hf, hn, hs, hic, hin⟩ := hv
  obtain ⟨af, cf, rfl, hcf, hmf⟩ := hf.len
  obtain ⟨an, cn, rfl, hcn, hmn⟩ := hn.len
  obtain ⟨as', cs', rfl, hcs, hms⟩ := hs.len
  have HF : Hid (FilesW w (.slice af s.files.length cf) s.files) := hf
  have HN : Hid (NamesW w (.slice an s.names.length cn) s.names) := hn
  have HS : Hid (NamesW w (.slice as' s.safe.length cs') s.safe) := hs
  have B0 : (w.alloc (.cells #[.int .i64 s.cap, .slice af s.files.length cf, .slice an s.names.length cn, .slice as' s.safe.length cs', .int .i64 s.next] 25)).heap[w.heap.size]? = some (.cells #[.int .i64 s.cap, .slice af s.files.length cf, .slice an s.names.length cn, .slice as' s.safe.length cs', .int .i64 s.next] 25) := blk_new _ _
  have U0 : Hid (Below w.heap.size w (w.alloc (.cells #[.int .i64 s.cap, .slice af s.files.length cf, .slice an s.names.length cn, .slice as' s.safe.length cs', .int .i64 s.next] 25))) := up_alloc _ _
  have HH : headR s = true := hh
  unfold headR at HH
  simp only [Bool.and_eq_true, decide_eq_true_eq] at HH
  obtain ⟨⟨⟨⟨⟨⟨⟨e1, e2⟩, e3⟩, e4⟩, e5⟩, e6⟩, e7⟩, e8⟩ := HH
  have d1 : ¬ s.cap < 0 := by omega
  have d2 : ¬ 16777216 < s.cap := by omega
  have d3 : ¬ (256 : Int) < (s.files.length : Int) := by omega
  have d4 : ¬ s.next < 1 := by omega
  have d5 : ¬ 2147483647 < s.next := by omega
  have d6 : ¬ s.cap < usedOf s.files := by omega
  have d7 : ¬ (256 : Int) < (s.names.length : Int) := by omega
  have d8 : ¬ (256 : Int) < (s.safe.length : Int) := by omega
  have HE : Hid (s.files.length ≤ 256) := e3
  clear hf hn hs hh e1 e2 e3 e4 e5 e6 e7 e8
  have HNo : Hid (∀ k, k < s.files.length → okR s k = false → allR s = false) := by
    intro k hk h
    unfold allR
    rw [all_range_no k hk h]
    rfl
  have HYes : Hid ((∀ k, k < s.files.length → okR s k = true) → allR s = (namesOf s.files s.names && namesOf s.files s.safe)) := by
    intro h
    unfold allR
    rw [all_range_yes h]
    rfl
  go_enter Tryz.func39, Tryz.ntmps39
  go_wp2_with fail
  generalize w.alloc (.cells #[.int .i64 s.cap, .slice af s.files.length cf, .slice an s.names.length cn, .slice as' s.safe.length cs', .int .i64 s.next] 25) = w1 at *
  have y0 := blk_cell B0 0 _ rfl
  have y1 := blk_cell B0 1 _ rfl
  have y2 := blk_cell B0 2 _ rfl
  have y3 := blk_cell B0 3 _ rfl
  have y4 := blk_cell B0 4 _ rfl
  have x0 := cell_up y0
  have x1 := cell_up y1
  have x2 := cell_up y2
  have x3 := cell_up y3
  have x4 := cell_up y4
  have HU : Hid (∀ p : UpW w1, Calls Tryz.prog 78 #[.agg #[.int .i64 s.cap, .slice af s.files.length cf, .slice an s.names.length cn, .slice as' s.safe.length cs', .int .i64 s.next]] p.val fun e w' => e = .returned (.int .i64 (usedOf s.files)) ∧ Below p.val.heap.size p.val w') := by
    intro p
    refine (refUsed_any s.files _ _ _ _ _ p.val (HF.out.up (up_trans U0.out p.up)) HE.out).mono ?_
    rintro e w' ⟨rfl, rfl⟩
    exact ⟨rfl, up_alloc _ _⟩
  refine wp_region_up (by kernel_rfl) (by kernel_rfl) ?_
  repeat
    (with_reducible refine wpQuiet_step (fun K hK => ?_)
     go_simp
     first
       | (refine hK _ ?_; clear hK K)
       | (apply Exists.intro; refine ⟨fun _ => ?_, hK _ ?_⟩; go_at_call 78; refine calls_up (HU.out _); clear hK K))
  with_reducible refine wpQuiet_nil ?_
  intro _ hw'
  obtain ⟨p0, hw''⟩ := hw'
  subst hw''
  clear x0 x1 x2 x3 x4
  have x0 := cell_up y0 p0
  have x1 := cell_up y1 p0
  have x2 := cell_up y2 p0
  have x3 := cell_up y3 p0
  have x4 := cell_up y4 p0
  have U1 : Hid (Below w.heap.size w p0.val) := up_trans U0.out p0.up
  clear B0 y0 y1 y2 y3 y4 HU U0
  generalize p0.val = wa at *
  clear p0
  go_wp2_with fail
  go_loopw [3] (fun i wr => ∃ k : Nat, k ≤ s.files.length ∧ i = .int .i64 k ∧ Hid (∀ j, j < k → okR s j = true) ∧ Hid (Below wa.heap.size wa wr)) (fun i _ => s.files.length - (intOf i).toNat)
  case atStart => exact ⟨0, Nat.zero_le _, rfl, (fun j hj => by omega), Below.refl _ _⟩
  case round =>
    obtain ⟨k, hk, rfl, HK, HB⟩ := hrel
    have z0 := (HB.out.cell (World.block_lt_of_cell? _ _ x0)).trans x0
    have z1 := (HB.out.cell (World.block_lt_of_cell? _ _ x1)).trans x1
    have z2 := (HB.out.cell (World.block_lt_of_cell? _ _ x2)).trans x2
    have z3 := (HB.out.cell (World.block_lt_of_cell? _ _ x3)).trans x3
    have z4 := (HB.out.cell (World.block_lt_of_cell? _ _ x4)).trans x4
    have UR : Hid (Below w.heap.size w wr) := up_trans U1.out HB.out
    clear x0 x1 x2 x3 x4
    by_cases hlt : k < s.files.length
    · have hlt' : (k : Int) < (s.files.length : Int) := by omega
      have HF2 : Hid (FilesW wr (.slice af s.files.length cf) s.files) := HF.out.up UR.out
      obtain ⟨b, off, cap', u, e, _, _, c0, c1, c2, ho, hdl, hi0, hi2⟩ := HF2.out.at k hlt
      simp at e
      obtain ⟨rfl, rfl⟩ := e
      have HN2 : Hid (okR s k = false → allR s = false) := HNo.out k hlt
      have HOk : Hid (okR s k = (decide (1 ≤ (s.files.getD k (0, [], 0)).1) && decide ((s.files.getD k (0, [], 0)).1 < s.next) && (decide (k = 0) || decide ((s.files.getD (k - 1) (0, [], 0)).1 < (s.files.getD k (0, [], 0)).1)) && decide (0 ≤ (s.files.getD k (0, [], 0)).2.2) && decide ((s.files.getD k (0, [], 0)).2.2 ≤ ((s.files.getD k (0, [], 0)).2.1.length : Int)) && (standsOf s.names (s.files.getD k (0, [], 0)).1 || standsOf s.safe (s.files.getD k (0, [], 0)).1))) := rfl
      have HPrev : Hid (0 < k → ∃ b' off', (b' = b ∧ off' = off) ∧ wr.cell? ⟨b', off' + (k - 1) * 3, none⟩ = some (.int .i64 (s.files.getD (k - 1) (0, [], 0)).1)) := by
        intro h
        obtain ⟨b', off', cap'', u', e', _, _, c0', _⟩ := HF2.out.at (k - 1) (by omega)
        simp at e'
        exact ⟨b', off', ⟨e'.1.1.symm, e'.1.2.symm⟩, c0'⟩
      generalize s.files.getD k (0, [], 0) = y at *
      obtain ⟨yi, yd, ys⟩ := y
      simp only at c0 c1 c2 ho hdl hi0 hi2 HOk
      generalize (s.files.getD (k - 1) (0, [], 0)).1 = pv at *
      obtain ⟨au, capu, rfl, hcapu⟩ := ho.slice
      clear ho
      have HK2 : Hid (okR s k = true → ∀ j, j < k + 1 → okR s j = true) := by
        intro h j hj
        rcases Nat.lt_or_ge j k with c | c
        · exact HK.out j c
        · obtain rfl : j = k := by omega
          exact h
      have B1 : (wr.alloc (.cells #[.int .i64 yi, .slice au yd.length capu, .int .i64 ys] 111)).heap[wr.heap.size]? = some (.cells #[.int .i64 yi, .slice au yd.length capu, .int .i64 ys] 111) := blk_new _ _
      have U2 : Hid (Below wr.heap.size wr (wr.alloc (.cells #[.int .i64 yi, .slice au yd.length capu, .int .i64 ys] 111))) := up_alloc _ _
      go_wp2_with fail
      generalize wr.alloc (.cells #[.int .i64 yi, .slice au yd.length capu, .int .i64 ys] 111) = w2 at *
      have f0 := cell_up (blk_cell B1 0 _ rfl)
      have f1 := cell_up (blk_cell B1 1 _ rfl)
      have f2 := cell_up (blk_cell B1 2 _ rfl)
      have s1 := cell_al U2.out z1
      have s2 := cell_al U2.out z2
      have s3 := cell_al U2.out z3
      have s4 := cell_al U2.out z4
      have HC1 : Hid (∀ p : UpW w2, Calls Tryz.prog 79 #[.slice an s.names.length cn, .int .i64 yi] p.val fun e w' => e = .returned (.bool (standsOf s.names yi)) ∧ Below p.val.heap.size p.val w') := by
        intro p
        refine (refStands_any s.names yi _ p.val (HN.out.up (up_trans UR.out (up_trans U2.out p.up)))).mono ?_
        rintro e w' ⟨rfl, rfl⟩
        exact ⟨rfl, Below.refl _ _⟩
      have HC2 : Hid (∀ p : UpW w2, Calls Tryz.prog 79 #[.slice as' s.safe.length cs', .int .i64 yi] p.val fun e w' => e = .returned (.bool (standsOf s.safe yi)) ∧ Below p.val.heap.size p.val w') := by
        intro p
        refine (refStands_any s.safe yi _ p.val (HS.out.up (up_trans UR.out (up_trans U2.out p.up)))).mono ?_
        rintro e w' ⟨rfl, rfl⟩
        exact ⟨rfl, Below.refl _ _⟩
      clear B1 z0 z1 z2 z3 z4 c1 c2 hdl HF2 HNo HYes HF HN HS HE HK
      by_cases d1 : yi < 1
      · skip
        have HR : Hid (allR s = false) := HN2.out (by rw [HOk.out]; simp; omega)
        refine wp_region_up (by kernel_rfl) (by kernel_rfl) ?_
        repeat
          (with_reducible refine wpQuiet_step (fun K hK => ?_)
           go_simp
           first
             | (refine hK _ ?_; clear hK K)
             | (apply Exists.intro; refine ⟨fun _ => ?_, hK _ ?_⟩; fail))
        with_reducible refine wpQuiet_nil ?_
        intro _ hw'
        obtain ⟨p, hw''⟩ := hw'
        subst hw''
        go_wp2_with fail
        go_ret
        rw [HR.out]
        exact ⟨rfl, up_trans UR.out (up_trans U2.out p.up)⟩
      · by_cases d2 : s.next ≤ yi
        · skip
          have HR : Hid (allR s = false) := HN2.out (by rw [HOk.out]; simp; omega)
          refine wp_region_up (by kernel_rfl) (by kernel_rfl) ?_
          repeat
            (with_reducible refine wpQuiet_step (fun K hK => ?_)
             go_simp
             first
               | (refine hK _ ?_; clear hK K)
               | (apply Exists.intro; refine ⟨fun _ => ?_, hK _ ?_⟩; fail))
          with_reducible refine wpQuiet_nil ?_
          intro _ hw'
          obtain ⟨p, hw''⟩ := hw'
          subst hw''
          go_wp2_with fail
          go_ret
          rw [HR.out]
          exact ⟨rfl, up_trans UR.out (up_trans U2.out p.up)⟩
        · by_cases hk0 : k = 0
          · have hz : decide ((0 : Int) < (k : Int)) = false := by simp; omega
            have hz2 : ¬ (0 : Int) < (k : Int) := by omega
            have hz3 : decide (0 < k) = false := by simp; omega
            have hz4 : ¬ 0 < k := by omega
            replace hk0 : Hid (k = 0) := hk0
            clear HPrev c0
            by_cases d4 : ys < 0
            · skip
              have HR : Hid (allR s = false) := HN2.out (by rw [HOk.out]; simp; omega)
              refine wp_region_up (by kernel_rfl) (by kernel_rfl) ?_
              repeat
                (with_reducible refine wpQuiet_step (fun K hK => ?_)
                 go_simp
                 first
                   | (refine hK _ ?_; clear hK K)
                   | (apply Exists.intro; refine ⟨fun _ => ?_, hK _ ?_⟩; fail))
              with_reducible refine wpQuiet_nil ?_
              intro _ hw'
              obtain ⟨p, hw''⟩ := hw'
              subst hw''
              go_wp2_with fail
              go_ret
              rw [HR.out]
              exact ⟨rfl, up_trans UR.out (up_trans U2.out p.up)⟩
            · by_cases d5 : (yd.length : Int) < ys
              · skip
                have HR : Hid (allR s = false) := HN2.out (by rw [HOk.out]; simp; omega)
                refine wp_region_up (by kernel_rfl) (by kernel_rfl) ?_
                repeat
                  (with_reducible refine wpQuiet_step (fun K hK => ?_)
                   go_simp
                   first
                     | (refine hK _ ?_; clear hK K)
                     | (apply Exists.intro; refine ⟨fun _ => ?_, hK _ ?_⟩; fail))
                with_reducible refine wpQuiet_nil ?_
                intro _ hw'
                obtain ⟨p, hw''⟩ := hw'
                subst hw''
                go_wp2_with fail
                go_ret
                rw [HR.out]
                exact ⟨rfl, up_trans UR.out (up_trans U2.out p.up)⟩
              · cases q1 : standsOf s.names yi
                · cases q2 : standsOf s.safe yi
                  · skip
                    have HD1 : Hid (∀ p : UpW w2, Calls Tryz.prog 79 #[.slice an s.names.length cn, .int .i64 yi] p.val fun e w' => e = .returned (.bool false) ∧ Below p.val.heap.size p.val w') := by
                      intro p
                      have h := HC1.out p
                      rw [q1] at h
                      exact h
                    have HD2 : Hid (∀ p : UpW w2, Calls Tryz.prog 79 #[.slice as' s.safe.length cs', .int .i64 yi] p.val fun e w' => e = .returned (.bool false) ∧ Below p.val.heap.size p.val w') := by
                      intro p
                      have h := HC2.out p
                      rw [q2] at h
                      exact h
                    have HR : Hid (allR s = false) := HN2.out (by rw [HOk.out]; rw [q1, q2]; simp)
                    refine wp_region_up (by kernel_rfl) (by kernel_rfl) ?_
                    repeat
                      (with_reducible refine wpQuiet_step (fun K hK => ?_)
                       go_simp
                       first
                         | (refine hK _ ?_; clear hK K)
                         | (apply Exists.intro; refine ⟨fun _ => ?_, hK _ ?_⟩; go_at_call 79; first | with_reducible refine calls_up (HD1.out _) | with_reducible refine calls_up (HD2.out _); clear hK K))
                    with_reducible refine wpQuiet_nil ?_
                    intro _ hw'
                    obtain ⟨p, hw''⟩ := hw'
                    subst hw''
                    go_wp2_with fail
                    go_ret
                    rw [HR.out]
                    exact ⟨rfl, up_trans UR.out (up_trans U2.out p.up)⟩
                  · skip
                    have HD1 : Hid (∀ p : UpW w2, Calls Tryz.prog 79 #[.slice an s.names.length cn, .int .i64 yi] p.val fun e w' => e = .returned (.bool false) ∧ Below p.val.heap.size p.val w') := by
                      intro p
                      have h := HC1.out p
                      rw [q1] at h
                      exact h
                    have HD2 : Hid (∀ p : UpW w2, Calls Tryz.prog 79 #[.slice as' s.safe.length cs', .int .i64 yi] p.val fun e w' => e = .returned (.bool true) ∧ Below p.val.heap.size p.val w') := by
                      intro p
                      have h := HC2.out p
                      rw [q2] at h
                      exact h
                    have HK3 := HK2.out (by rw [HOk.out]; rw [q1, q2]; simp; omega)
                    have HK4 : Hid (∀ i0, i0 < k + 1 → okR s i0 = true) := HK3
                    clear HK3
                    refine wp_region_up (by kernel_rfl) (by kernel_rfl) ?_
                    repeat
                      (with_reducible refine wpQuiet_step (fun K hK => ?_)
                       go_simp
                       first
                         | (refine hK _ ?_; clear hK K)
                         | (apply Exists.intro; refine ⟨fun _ => ?_, hK _ ?_⟩; go_at_call 79; first | with_reducible refine calls_up (HD1.out _) | with_reducible refine calls_up (HD2.out _); clear hK K))
                    with_reducible refine wpQuiet_nil ?_
                    intro _ hw'
                    obtain ⟨p, hw''⟩ := hw'
                    subst hw''
                    go_wp2_with fail
                    exact ⟨⟨k + 1, by omega, by go_num, HK4, up_trans HB.out (up_trans U2.out p.up)⟩, by simp [intOf]; omega⟩
                · skip
                  have HD1 : Hid (∀ p : UpW w2, Calls Tryz.prog 79 #[.slice an s.names.length cn, .int .i64 yi] p.val fun e w' => e = .returned (.bool true) ∧ Below p.val.heap.size p.val w') := by
                    intro p
                    have h := HC1.out p
                    rw [q1] at h
                    exact h
                  have HK3 := HK2.out (by rw [HOk.out]; rw [q1]; simp; omega)
                  have HK4 : Hid (∀ i0, i0 < k + 1 → okR s i0 = true) := HK3
                  clear HK3
                  refine wp_region_up (by kernel_rfl) (by kernel_rfl) ?_
                  repeat
                    (with_reducible refine wpQuiet_step (fun K hK => ?_)
                     go_simp
                     first
                       | (refine hK _ ?_; clear hK K)
                       | (apply Exists.intro; refine ⟨fun _ => ?_, hK _ ?_⟩; go_at_call 79; refine calls_up (HD1.out _); clear hK K))
                  with_reducible refine wpQuiet_nil ?_
                  intro _ hw'
                  obtain ⟨p, hw''⟩ := hw'
                  subst hw''
                  go_wp2_with fail
                  exact ⟨⟨k + 1, by omega, by go_num, HK4, up_trans HB.out (up_trans U2.out p.up)⟩, by simp [intOf]; omega⟩
          · obtain ⟨j, hj⟩ : ∃ j, k = j + 1 := ⟨k - 1, by omega⟩
            subst hj
            obtain ⟨b1, off1, ⟨hb1, hb2⟩, c3⟩ := HPrev.out (by omega)
            subst hb1 hb2
            simp only [Nat.add_sub_cancel] at c3
            have c4 := cell_al U2.out c3
            have j0 : (0 : Int) ≤ (j : Int) + 1 := by omega
            have j1 : IntKind.i64.wrap (j : Int) = (j : Int) := by rw [IntKind.wrap_i64]; omega
            have j2 : (0 : Int) < (j : Int) + 1 := by omega
            have j3 : (j : Int) < (s.files.length : Int) := by omega
            have j4 : (0 : Int) ≤ (j : Int) := by omega
            clear HPrev c0 c3
            by_cases d3 : yi ≤ pv
            · skip
              have HR : Hid (allR s = false) := HN2.out (by rw [HOk.out]; simp; omega)
              refine wp_region_up (by kernel_rfl) (by kernel_rfl) ?_
              repeat
                (with_reducible refine wpQuiet_step (fun K hK => ?_)
                 go_simp
                 first
                   | (refine hK _ ?_; clear hK K)
                   | (apply Exists.intro; refine ⟨fun _ => ?_, hK _ ?_⟩; fail))
              with_reducible refine wpQuiet_nil ?_
              intro _ hw'
              obtain ⟨p, hw''⟩ := hw'
              subst hw''
              go_wp2_with fail
              go_ret
              rw [HR.out]
              exact ⟨rfl, up_trans UR.out (up_trans U2.out p.up)⟩
            · skip
              by_cases d4 : ys < 0
              · skip
                have HR : Hid (allR s = false) := HN2.out (by rw [HOk.out]; simp; omega)
                refine wp_region_up (by kernel_rfl) (by kernel_rfl) ?_
                repeat
                  (with_reducible refine wpQuiet_step (fun K hK => ?_)
                   go_simp
                   first
                     | (refine hK _ ?_; clear hK K)
                     | (apply Exists.intro; refine ⟨fun _ => ?_, hK _ ?_⟩; fail))
                with_reducible refine wpQuiet_nil ?_
                intro _ hw'
                obtain ⟨p, hw''⟩ := hw'
                subst hw''
                go_wp2_with fail
                go_ret
                rw [HR.out]
                exact ⟨rfl, up_trans UR.out (up_trans U2.out p.up)⟩
              · by_cases d5 : (yd.length : Int) < ys
                · skip
                  have HR : Hid (allR s = false) := HN2.out (by rw [HOk.out]; simp; omega)
                  refine wp_region_up (by kernel_rfl) (by kernel_rfl) ?_
                  repeat
                    (with_reducible refine wpQuiet_step (fun K hK => ?_)
                     go_simp
                     first
                       | (refine hK _ ?_; clear hK K)
                       | (apply Exists.intro; refine ⟨fun _ => ?_, hK _ ?_⟩; fail))
                  with_reducible refine wpQuiet_nil ?_
                  intro _ hw'
                  obtain ⟨p, hw''⟩ := hw'
                  subst hw''
                  go_wp2_with fail
                  go_ret
                  rw [HR.out]
                  exact ⟨rfl, up_trans UR.out (up_trans U2.out p.up)⟩
                · cases q1 : standsOf s.names yi
                  · cases q2 : standsOf s.safe yi
                    · skip
                      have HD1 : Hid (∀ p : UpW w2, Calls Tryz.prog 79 #[.slice an s.names.length cn, .int .i64 yi] p.val fun e w' => e = .returned (.bool false) ∧ Below p.val.heap.size p.val w') := by
                        intro p
                        have h := HC1.out p
                        rw [q1] at h
                        exact h
                      have HD2 : Hid (∀ p : UpW w2, Calls Tryz.prog 79 #[.slice as' s.safe.length cs', .int .i64 yi] p.val fun e w' => e = .returned (.bool false) ∧ Below p.val.heap.size p.val w') := by
                        intro p
                        have h := HC2.out p
                        rw [q2] at h
                        exact h
                      have HR : Hid (allR s = false) := HN2.out (by rw [HOk.out]; rw [q1, q2]; simp)
                      refine wp_region_up (by kernel_rfl) (by kernel_rfl) ?_
                      repeat
                        (with_reducible refine wpQuiet_step (fun K hK => ?_)
                         go_simp
                         first
                           | (refine hK _ ?_; clear hK K)
                           | (apply Exists.intro; refine ⟨fun _ => ?_, hK _ ?_⟩; go_at_call 79; first | with_reducible refine calls_up (HD1.out _) | with_reducible refine calls_up (HD2.out _); clear hK K))
                      with_reducible refine wpQuiet_nil ?_
                      intro _ hw'
                      obtain ⟨p, hw''⟩ := hw'
                      subst hw''
                      go_wp2_with fail
                      go_ret
                      rw [HR.out]
                      exact ⟨rfl, up_trans UR.out (up_trans U2.out p.up)⟩
                    · skip
                      have HD1 : Hid (∀ p : UpW w2, Calls Tryz.prog 79 #[.slice an s.names.length cn, .int .i64 yi] p.val fun e w' => e = .returned (.bool false) ∧ Below p.val.heap.size p.val w') := by
                        intro p
                        have h := HC1.out p
                        rw [q1] at h
                        exact h
                      have HD2 : Hid (∀ p : UpW w2, Calls Tryz.prog 79 #[.slice as' s.safe.length cs', .int .i64 yi] p.val fun e w' => e = .returned (.bool true) ∧ Below p.val.heap.size p.val w') := by
                        intro p
                        have h := HC2.out p
                        rw [q2] at h
                        exact h
                      have HK3 := HK2.out (by rw [HOk.out]; rw [q1, q2]; simp; omega)
                      have HK4 : Hid (∀ i0, i0 < (j + 1) + 1 → okR s i0 = true) := HK3
                      clear HK3
                      refine wp_region_up (by kernel_rfl) (by kernel_rfl) ?_
                      repeat
                        (with_reducible refine wpQuiet_step (fun K hK => ?_)
                         go_simp
                         first
                           | (refine hK _ ?_; clear hK K)
                           | (apply Exists.intro; refine ⟨fun _ => ?_, hK _ ?_⟩; go_at_call 79; first | with_reducible refine calls_up (HD1.out _) | with_reducible refine calls_up (HD2.out _); clear hK K))
                      with_reducible refine wpQuiet_nil ?_
                      intro _ hw'
                      obtain ⟨p, hw''⟩ := hw'
                      subst hw''
                      go_wp2_with fail
                      exact ⟨⟨(j + 1) + 1, by omega, by go_num, HK4, up_trans HB.out (up_trans U2.out p.up)⟩, by simp [intOf]; omega⟩
                  · skip
                    have HD1 : Hid (∀ p : UpW w2, Calls Tryz.prog 79 #[.slice an s.names.length cn, .int .i64 yi] p.val fun e w' => e = .returned (.bool true) ∧ Below p.val.heap.size p.val w') := by
                      intro p
                      have h := HC1.out p
                      rw [q1] at h
                      exact h
                    have HK3 := HK2.out (by rw [HOk.out]; rw [q1]; simp; omega)
                    have HK4 : Hid (∀ i0, i0 < (j + 1) + 1 → okR s i0 = true) := HK3
                    clear HK3
                    refine wp_region_up (by kernel_rfl) (by kernel_rfl) ?_
                    repeat
                      (with_reducible refine wpQuiet_step (fun K hK => ?_)
                       go_simp
                       first
                         | (refine hK _ ?_; clear hK K)
                         | (apply Exists.intro; refine ⟨fun _ => ?_, hK _ ?_⟩; go_at_call 79; refine calls_up (HD1.out _); clear hK K))
                    with_reducible refine wpQuiet_nil ?_
                    intro _ hw'
                    obtain ⟨p, hw''⟩ := hw'
                    subst hw''
                    go_wp2_with fail
                    exact ⟨⟨(j + 1) + 1, by omega, by go_num, HK4, up_trans HB.out (up_trans U2.out p.up)⟩, by simp [intOf]; omega⟩
    · have hlt' : ¬ (k : Int) < (s.files.length : Int) := by omega
      obtain rfl : k = s.files.length := by omega
      have HR : Hid (allR s = (namesOf s.files s.names && namesOf s.files s.safe)) := HYes.out HK.out
      clear HYes HNo HK
      cases q1 : namesOf s.files s.names
      · go_wp2_with fail
        refine (refNames_any s.files s.names _ _ _ _ _ _ wr (HF.out.up UR.out) (HN.out.up UR.out)).mono ?_
        rintro e w3 ⟨rfl, hb⟩
        replace hb : Hid (Below wr.heap.size wr w3) := hb
        rw [q1]
        go_wp2_with fail
        go_ret
        rw [HR.out, q1]
        exact ⟨rfl, up_trans UR.out hb.out⟩
      · go_wp2_with fail
        refine (refNames_any s.files s.names _ _ _ _ _ _ wr (HF.out.up UR.out) (HN.out.up UR.out)).mono ?_
        rintro e w3 ⟨rfl, hb⟩
        replace hb : Hid (Below wr.heap.size wr w3) := hb
        have v0 := (hb.out.cell (World.block_lt_of_cell? _ _ z0)).trans z0
        have v1 := (hb.out.cell (World.block_lt_of_cell? _ _ z1)).trans z1
        have v2 := (hb.out.cell (World.block_lt_of_cell? _ _ z2)).trans z2
        have v3 := (hb.out.cell (World.block_lt_of_cell? _ _ z3)).trans z3
        have v4 := (hb.out.cell (World.block_lt_of_cell? _ _ z4)).trans z4
        rw [q1]
        go_wp2_with fail
        refine (refNames_any s.files s.safe _ _ _ _ _ _ w3 (HF.out.up (up_trans UR.out hb.out)) (HS.out.up (up_trans UR.out hb.out))).mono ?_
        rintro e w4 ⟨rfl, hb2⟩
        replace hb2 : Hid (Below w3.heap.size w3 w4) := hb2
        cases q2 : namesOf s.files s.safe
        · go_wp2_with fail
          go_ret
          rw [HR.out, q1, q2]
          exact ⟨rfl, up_trans UR.out (up_trans hb.out hb2.out)⟩
        · go_wp2_with fail
          go_ret
          rw [HR.out, q1, q2]
          exact ⟨rfl, up_trans UR.out (up_trans hb.out hb2.out)⟩
end Go.Proofs.YtnchjlimkgbfpaaGreatDoor
