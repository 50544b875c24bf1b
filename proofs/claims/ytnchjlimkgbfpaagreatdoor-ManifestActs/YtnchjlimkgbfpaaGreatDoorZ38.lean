/- The texts AL, HLiv, in this order. -/
import Derived.Test.YtnchjlimkgbfpaaGreatDoorZ13
import Derived.Test.YtnchjlimkgbfpaaGreatDoorZ37
import Derived.Deep.RegionHeld3
import Derived.Test.YtnchjlimkgbfpaaGreatDoorZ34

namespace Go.Proofs.YtnchjlimkgbfpaaGreatDoor
open Go.RowKit
set_option linter.unusedVariables false
set_option linter.unusedSimpArgs false
theorem up_set {a b : World} (h : Below a.heap.size a b) (q : Addr) (hq : a.heap.size ≤ q.block) (u : Value) : Below a.heap.size a (b.setCell q u) :=
  h.grown (grown_set b q u) h.size (fun k hk => by injection hk with hk; omega)
set_option maxHeartbeats 8000000 in
set_option maxRecDepth 4000 in
theorem alikeS_self (s : St) (v u : Value) (w : World) (hv : StW w v s) (hu : StW w u s) :
    Calls Tryz.prog 16 #[v, u] w fun e w' => e = .returned (.int .i64 0) ∧ Below w.heap.size w w' := by
  obtain ⟨a1f, c1f, a1n, c1n, a1s, c1s, rfl⟩ := hv.form
  obtain ⟨a2f, c2f, a2n, c2n, a2s, c2s, rfl⟩ := hu.form
  obtain ⟨vf, vn, vs, ev, hf1, hn1, hs1, _, _⟩ := hv
  simp at ev
  obtain ⟨rfl, rfl, rfl⟩ := ev
  obtain ⟨vf, vn, vs, ev, hf2, hn2, hs2, _, _⟩ := hu
  simp at ev
  obtain ⟨rfl, rfl, rfl⟩ := ev
  have hmx : s.files.length ≤ 9223372036854775807 := by
    obtain ⟨_, cc, e, h1, h2⟩ := hf1.len
    unfold maxLen at h2
    omega
  have HF1 : Hid (FilesW w (.slice a1f s.files.length c1f) s.files) := hf1
  have HF2 : Hid (FilesW w (.slice a2f s.files.length c2f) s.files) := hf2
  have HN : Hid (NamesW w (.slice a1n s.names.length c1n) s.names ∧ NamesW w (.slice a2n s.names.length c2n) s.names) := ⟨hn1, hn2⟩
  have HS : Hid (NamesW w (.slice a1s s.safe.length c1s) s.safe ∧ NamesW w (.slice a2s s.safe.length c2s) s.safe) := ⟨hs1, hs2⟩
  obtain ⟨N, hN⟩ : ∃ N, N = w.heap.size := ⟨_, rfl⟩
  obtain ⟨wx, hwx⟩ : ∃ wx, wx = (w.alloc (.cells #[.int .i64 s.cap, .slice a1f s.files.length c1f, .slice a1n s.names.length c1n, .slice a1s s.safe.length c1s, .int .i64 s.next] 35)).alloc (.cells #[.int .i64 s.cap, .slice a2f s.files.length c2f, .slice a2n s.names.length c2n, .slice a2s s.safe.length c2s, .int .i64 s.next] 25) := ⟨_, rfl⟩
  have HWx : Hid ((w.alloc (.cells #[.int .i64 s.cap, .slice a1f s.files.length c1f, .slice a1n s.names.length c1n, .slice a1s s.safe.length c1s, .int .i64 s.next] 35)).alloc (.cells #[.int .i64 s.cap, .slice a2f s.files.length c2f, .slice a2n s.names.length c2n, .slice a2s s.safe.length c2s, .int .i64 s.next] 25) = wx) := hwx.symm
  have b0 : wx.heap[N]? = some (.cells #[.int .i64 s.cap, .slice a1f s.files.length c1f, .slice a1n s.names.length c1n, .slice a1s s.safe.length c1s, .int .i64 s.next] 35) := by rw [hwx, hN]; exact blk_two0 w _ _
  have b1 : wx.heap[N + 1]? = some (.cells #[.int .i64 s.cap, .slice a2f s.files.length c2f, .slice a2n s.names.length c2n, .slice a2s s.safe.length c2s, .int .i64 s.next] 25) := by rw [hwx, hN]; exact blk_two1 w _ _
  have UX : Hid (Below w.heap.size w wx) := by rw [hwx]; exact up_al (up_al (Below.refl _ _) _) _
  obtain ⟨p0, p1, p2, p3, p4⟩ := box_cells b0
  obtain ⟨q0, q1, q2, q3, q4⟩ := box_cells b1
  have HNe : Hid (N = w.heap.size) := hN
  clear hf1 hf2 hn1 hn2 hs1 hs2 hwx
  go_enter Tryz.func16, Tryz.ntmps16
  go_upto_region 1 with fail
  rw [HWx.out, ← hN]
  clear HWx hN
  go_wp2_with fail
  refine (sameNames_self s.names _ _ wx (HN.out.1.up UX.out) (HN.out.2.up UX.out)).mono ?_
  rintro e w1 ⟨rfl, u1⟩
  have B0 := blk_up b0 u1
  have B1 := blk_up b1 u1
  have U1 : Hid (Below w.heap.size w w1) := up_trans UX.out u1
  clear p0 p1 p2 p3 p4 q0 q1 q2 q3 q4 b0 b1 u1
  obtain ⟨p0, p1, p2, p3, p4⟩ := box_cells B0
  obtain ⟨q0, q1, q2, q3, q4⟩ := box_cells B1
  go_wp2_with fail
  refine (sameNames_self s.safe _ _ w1 (HS.out.1.up U1.out) (HS.out.2.up U1.out)).mono ?_
  rintro e w2 ⟨rfl, u2⟩
  have B0' := blk_up B0 u2
  have B1' := blk_up B1 u2
  have U2 : Hid (Below w.heap.size w w2) := up_trans U1.out u2
  clear p0 p1 p2 p3 p4 q0 q1 q2 q3 q4 B0 B1 u2
  obtain ⟨p0, p1, p2, p3, p4⟩ := box_cells B0'
  obtain ⟨q0, q1, q2, q3, q4⟩ := box_cells B1'
  go_wp2_with fail
  go_loopw [5] (fun i wr => ∃ k : Nat, k ≤ s.files.length ∧ i = .int .i64 k ∧ Hid (Below w2.heap.size w2 wr)) (fun i _ => s.files.length - (intOf i).toNat)
  case atStart => exact ⟨0, Nat.zero_le _, rfl, Below.refl _ _⟩
  case round =>
    obtain ⟨k, hk, rfl, HB⟩ := hrel
    have r1 := (HB.out.cell (World.block_lt_of_cell? _ _ p1)).trans p1
    have r2 := (HB.out.cell (World.block_lt_of_cell? _ _ q1)).trans q1
    have UR : Hid (Below w.heap.size w wr) := up_trans U2.out HB.out
    by_cases hlt : k < s.files.length
    · have hlt' : (k : Int) < (s.files.length : Int) := by omega
      obtain ⟨g1, o1, cap1, u1, e1, _, _, c0, c1, c2, ho1, _⟩ := (HF1.out.up UR.out).at k hlt
      simp at e1
      obtain ⟨rfl, rfl⟩ := e1
      obtain ⟨g2, o2, cap2, u2, e2, _, _, d0, d1, d2, ho2, _⟩ := (HF2.out.up UR.out).at k hlt
      simp at e2
      obtain ⟨rfl, rfl⟩ := e2
      generalize s.files.getD k (0, [], 0) = y at *
      obtain ⟨yi, yd, ys⟩ := y
      simp only at c0 c1 c2 d0 d1 d2 ho1 ho2
      obtain ⟨ad1, cd1, rfl, _⟩ := ho1.slice
      obtain ⟨ad2, cd2, rfl, _⟩ := ho2.slice
      have HO : Hid (Octs wr (.slice ad1 yd.length cd1) yd ∧ Octs wr (.slice ad2 yd.length cd2) yd) := ⟨ho1, ho2⟩
      have l1 := World.block_lt_of_cell? _ _ r1
      have l2 := World.block_lt_of_cell? _ _ r2
      have l3 := World.block_lt_of_cell? _ _ c0
      have l4 := World.block_lt_of_cell? _ _ d0
      simp only at l1 l2 l3 l4
      have n1 : ¬ N = wr.heap.size := by omega
      have n2 : ¬ N + 1 = wr.heap.size := by omega
      have n3 : ¬ g1 = wr.heap.size := by omega
      have n4 : ¬ g2 = wr.heap.size := by omega
      have n5 : ¬ N = wr.heap.size + 1 := by omega
      have n6 : ¬ N + 1 = wr.heap.size + 1 := by omega
      have n7 : ¬ g1 = wr.heap.size + 1 := by omega
      have n8 : ¬ g2 = wr.heap.size + 1 := by omega
      have m1 : ¬ wr.heap.size = N := by omega
      have m2 : ¬ wr.heap.size = N + 1 := by omega
      have m3 : ¬ wr.heap.size = g1 := by omega
      have m4 : ¬ wr.heap.size = g2 := by omega
      have m5 : ¬ wr.heap.size + 1 = N := by omega
      have m6 : ¬ wr.heap.size + 1 = N + 1 := by omega
      have m7 : ¬ wr.heap.size + 1 = g1 := by omega
      have m8 : ¬ wr.heap.size + 1 = g2 := by omega
      clear ho1 ho2
      have HK : Hid (∀ X, Below wr.heap.size wr X → X.cell? ⟨N, 1, none⟩ = some (.slice (some ⟨g1, o1, none⟩) s.files.length c1f) ∧ X.cell? ⟨N + 1, 1, none⟩ = some (.slice (some ⟨g2, o2, none⟩) s.files.length c2f) ∧ X.cell? ⟨g1, o1 + k * 3, none⟩ = some (.int .i64 yi) ∧ X.cell? ⟨g1, o1 + k * 3 + 1, none⟩ = some (.slice ad1 yd.length cd1) ∧ X.cell? ⟨g1, o1 + k * 3 + 2, none⟩ = some (.int .i64 ys) ∧ X.cell? ⟨g2, o2 + k * 3, none⟩ = some (.int .i64 yi) ∧ X.cell? ⟨g2, o2 + k * 3 + 1, none⟩ = some (.slice ad2 yd.length cd2) ∧ X.cell? ⟨g2, o2 + k * 3 + 2, none⟩ = some (.int .i64 ys)) := by
        intro X hX
        exact ⟨(hX.cell l1).trans r1, (hX.cell l2).trans r2, (hX.cell l3).trans c0, (hX.cell l3).trans c1, (hX.cell l3).trans c2, (hX.cell l4).trans d0, (hX.cell l4).trans d1, (hX.cell l4).trans d2⟩
      go_upto_region 6 with fail
      go_cut [6, 7] from 52 to 61 (fun s6 s7 wx => ∃ A B, s6 = .pointer (some ⟨A, 0, none⟩) ∧ s7 = .pointer (some ⟨B, 0, none⟩) ∧ wx.heap[A]? = some (.cells #[.int .i64 yi, .slice ad1 yd.length cd1, .int .i64 ys] 110) ∧ wx.heap[B]? = some (.cells #[.int .i64 yi, .slice ad2 yd.length cd2, .int .i64 ys] 111) ∧ Hid (Below wr.heap.size wr wx))
      case first =>
        go_region_held3 (fun w' => w'.cell? ⟨N, 1, none⟩ = some (.slice (some ⟨g1, o1, none⟩) s.files.length c1f) ∧ w'.cell? ⟨N + 1, 1, none⟩ = some (.slice (some ⟨g2, o2, none⟩) s.files.length c2f) ∧ w'.cell? ⟨g1, o1 + k * 3, none⟩ = some (.int .i64 yi) ∧ w'.cell? ⟨g1, o1 + k * 3 + 1, none⟩ = some (.slice ad1 yd.length cd1) ∧ w'.cell? ⟨g1, o1 + k * 3 + 2, none⟩ = some (.int .i64 ys) ∧ w'.cell? ⟨g2, o2 + k * 3, none⟩ = some (.int .i64 yi) ∧ w'.cell? ⟨g2, o2 + k * 3 + 1, none⟩ = some (.slice ad2 yd.length cd2) ∧ w'.cell? ⟨g2, o2 + k * 3 + 2, none⟩ = some (.int .i64 ys)) (exact HK.out _ (by repeat (first | exact Below.refl _ _ | apply up_dr | apply up_al | (refine up_set ?_ _ (by first | exact Nat.le_refl _ | exact Nat.le_succ _) _)))) (fail)
        all_goals
          clear HK r1 r2 c0 c1 c2 d0 d1 d2 n1 n2 n3 n4 n5 n6 n7 n8 m1 m2 m3 m4 m5 m6 m7 m8 l1 l2 l3 l4
          go_wp2_with fail
          go_meet
          case rel => first | exact ⟨_, _, rfl, rfl, blk_up (blk_two0 wr _ _) (up_dr (Below.refl _ _)), blk_up (blk_two1 wr _ _) (up_dr (Below.refl _ _)), up_dr (up_al (up_al (Below.refl _ _) _) _)⟩ | exact ⟨_, _, rfl, rfl, blk_up (blk_two1 wr _ _) (up_dr (Below.refl _ _)), blk_up (blk_two0 wr _ _) (up_dr (Below.refl _ _)), up_dr (up_al (up_al (Below.refl _ _) _) _)⟩
      case rest =>
      obtain ⟨A, B, rfl, rfl, bA, bB, HU⟩ := hcut
      clear HK r1 r2 c0 c1 c2 d0 d1 d2 n1 n2 n3 n4 n5 n6 n7 n8 m1 m2 m3 m4 m5 m6 m7 m8 l1 l2 l3 l4
      have x0 := blk_cell bA 0 _ rfl
      have x1 := blk_cell bA 1 _ rfl
      have x2 := blk_cell bA 2 _ rfl
      have y0 := blk_cell bB 0 _ rfl
      have y1 := blk_cell bB 1 _ rfl
      have y2 := blk_cell bB 2 _ rfl
      go_wp2_with fail
      refine (same_any yd yd _ _ _ (HO.out.1.up HU.out) (HO.out.2.up HU.out)).mono ?_
      rintro e wz ⟨rfl, rfl⟩
      have hd : decide (yd = yd) = true := by simp
      rw [hd]
      clear hd
      have HU2 : Hid (Below w2.heap.size w2 _) := up_trans HB.out HU.out
      go_wp2_with fail
      exact ⟨⟨k + 1, by omega, by go_num, HU2⟩, by simp [intOf]; omega⟩
    · have hlt' : ¬ (k : Int) < (s.files.length : Int) := by omega
      go_wp2_with fail
      go_ret
      exact ⟨rfl, UR.out⟩
end Go.Proofs.YtnchjlimkgbfpaaGreatDoor

namespace Go.Proofs.YtnchjlimkgbfpaaGreatDoor
open Go.RowKit
set_option linter.unusedVariables false
set_option maxRecDepth 20000
set_option linter.unusedSimpArgs false
theorem num_any (x : Int) (w : World) : Calls Tryz.prog 15 #[.int .i64 x] w fun e w' => e = .returned (.int .i64 x) ∧ w' = w := by
  go_enter Tryz.func15, Tryz.ntmps15
  go_wp2
  go_ret
  exact ⟨rfl, rfl⟩
theorem digs12 : digs 12 = [49, 50] := by
  rw [digs_pos (by decide), digs_pos (by decide)]
  simp [digs_zero]
theorem name12 : nameN 116 12 = ([116, 49, 50], 0) := by
  have : nameN 116 12 = (116 :: digs 12, 0) := rfl
  rw [this, digs12]
theorem parse12 : parseN [116, 49, 50] = some (116, 12) := by
  have := parse_name (k := 116) (id := 12) rfl rfl
  rw [show (12 : Int).toNat = 12 from rfl, digs12] at this
  exact this
theorem parse012 : parseN [116, 48, 49, 50] = none := by
  rw [parse_first, if_neg]
  intro q
  have := q.2.2.1.1
  omega
set_option maxHeartbeats 1000000 in
set_option maxRecDepth 20000 in
theorem alive_any (w : World) (he : EnvL w) : Calls Tryz.prog 18 #[] w fun e w' => e = .returned (.bool true) ∧ Below w.heap.size w w' := by
  have H1 := hid (nameX 116 12 { data := #[116, 49, 50] } 0 (by rw [name12]; rfl) (by omega) w he.1)
  have H2 : Hid (∀ w', Below w.heap.size w w' → Calls Tryz.prog 49 #[.string { data := #[116, 48, 49, 50] }] w' fun e w'' => e = .returned (.tuple #[.int .u8 0, .int .i64 0, .bool false]) ∧ Below w'.heap.size w' w'') := by
    intro w' hb
    have := parse_any [116, 48, 49, 50] (by simp) (by simp) w' (he.up hb)
    rw [parse012] at this
    exact this
  have H3 : Hid (∀ w', Below w.heap.size w w' → Calls Tryz.prog 49 #[.string { data := #[116, 49, 50] }] w' fun e w'' => e = .returned (.tuple #[.int .u8 116, .int .i64 12, .bool true]) ∧ Below w'.heap.size w' w'') := by
    intro w' hb
    have := parse_any [116, 49, 50] (by simp) (by simp) w' (he.up hb)
    rw [parse12] at this
    exact this
  clear he
  go_enter Tryz.func18, Tryz.ntmps18
  go_wp2_with fail
  refine H1.out.mono ?_
  rintro e w1 ⟨rfl, hb1⟩
  go_wp2_with fail
  refine (H2.out w1 hb1).mono ?_
  rintro e w2 ⟨rfl, hb2⟩
  have hb2 := up_trans hb1 hb2
  go_wp2_with fail
  refine (H3.out w2 hb2).mono ?_
  rintro e w3 ⟨rfl, hb3⟩
  have hb3 := up_trans hb2 hb3
  go_wp2_with fail
  refine (num_any _ _).mono ?_
  rintro e w4 ⟨rfl, rfl⟩
  go_wp2_with fail
  go_ret
  exact ⟨rfl, hb3⟩
end Go.Proofs.YtnchjlimkgbfpaaGreatDoor
