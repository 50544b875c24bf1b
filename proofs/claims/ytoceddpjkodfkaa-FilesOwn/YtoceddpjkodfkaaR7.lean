/- That the page's example is alive. -/
import Derived.Test.YtoceddpjkodfkaaR6
namespace Go.Proofs.Ytoceddpjkodfkaa
open Go.RowKit
set_option linter.unusedVariables false
set_option linter.unusedSimpArgs false

theorem OwnV.laid {w : World} {base : Nat} {s : St} {a b c d e : Value} (h : OwnV w base (.agg #[a, b, c, d, e]) s) : OwnS (w.alloc (.cells #[a, b, c, d, e] 33)) base w.heap.size s := by
  obtain ⟨vf, vn, vs, m, ev, hm, of, on, os, hap, hi1, hi2⟩ := h
  simp at ev
  obtain ⟨rfl, rfl, rfl, rfl, rfl⟩ := ev
  have u := up_al (Below.refl w.heap.size w) (.cells #[.int .i64 s.cap, b, c, d, .int .i64 s.next] 33)
  exact ⟨trivial, _, _, _, m, blk_new w _, hm, of.up u, on.up u, os.up u, hap, hi1, hi2⟩

theorem OwnS.shape {w : World} {base B : Nat} {s : St} (h : OwnS w base B s) : ∃ af nf cf an nn cn as' ns cs', w.heap[B]? = some (.cells #[.int .i64 s.cap, .slice af nf cf, .slice an nn cn, .slice as' ns cs', .int .i64 s.next] 33) ∧ OwnV w base (.agg #[.int .i64 s.cap, .slice af nf cf, .slice an nn cn, .slice as' ns cs', .int .i64 s.next]) s := by
  obtain ⟨vf, vn, vs, hb, ov⟩ := h.take
  obtain ⟨a4, n4, c4, a5, n5, c5, a7, n7, c7, ev4⟩ := ov.shape
  simp at ev4
  obtain ⟨rfl, rfl, rfl⟩ := ev4
  exact ⟨_, _, _, _, _, _, _, _, _, hb, ov⟩

theorem OwnS.lt {w : World} {base B : Nat} {s : St} (h : OwnS w base B s) : B < w.heap.size := by
  obtain ⟨_, _, _, _, _, hb, _⟩ := h
  exact blk_lt hb

def sA : St := ⟨99, [], [], [], 1⟩
def sB : St := ⟨99, [(1, [120, 121, 122], 3)], [([97], 1)], [], 2⟩
def sC : St := ⟨99, [], [], [], 2⟩
def sD : St := ⟨99, [(1, [120, 121, 122], 3)], [([97], 1)], [([97], 1)], 2⟩
theorem al1 : newP 99 = (sA, 0) := by kernel_rfl
theorem al2 : runP sA (xyzL.take 3) = (sB, 3, 0) := by kernel_rfl
theorem al3 : crashP sB [] = (sC, 0) := by kernel_rfl
theorem al4 : readP sC [97] = ([], 71) := by kernel_rfl
theorem al5 : doP sB ⟨6, [], [], []⟩ = (sD, 0) := by kernel_rfl
theorem al6 : crashP sD [] = (sD, 0) := by kernel_rfl
theorem al7 : readP sD [97] = ([120, 121, 122], 0) := by kernel_rfl
theorem al8 : ∀ k, k ≤ (xyzL.take 3).length → Sound (afterN sA (xyzL.take 3) k) := by
  intro k hk
  have hk3 : k ≤ 3 := hk
  obtain rfl | rfl | rfl | rfl : k = 0 ∨ k = 1 ∨ k = 2 ∨ k = 3 := by omega
  · exact check_sound (by kernel_rfl)
  · exact check_sound (by kernel_rfl)
  · exact check_sound (by kernel_rfl)
  · exact check_sound (by kernel_rfl)

set_option maxHeartbeats 4000000 in
set_option maxRecDepth 4000 in
theorem alive_any (w : World) : Calls Try.prog 25 #[] w fun e w' => e = .returned (.bool true) ∧ Below w.heap.size w w' := by
  have s1 : strOfNums [97] = ⟨#[97]⟩ := by decide
  have S1 : Hid (strOfNums [97] = ⟨#[97]⟩) := s1
  clear s1
  go_enter Try.func25, Try.ntmps25
  go_wp2_with fail
  refine (new_any 99 (by unfold In64; decide) w).mono ?_
  rintro e w1 ⟨v1, rfl, ov1, u1⟩
  rw [al1] at ov1 ⊢
  obtain ⟨a1, n1, c1, a2, n2, c2, a3, n3, c3, ev1⟩ := ov1.shape
  have ev1' : v1 = .agg #[.int .i64 99, .slice a1 n1 c1, .slice a2 n2 c2, .slice a3 n3 c3, .int .i64 1] := ev1
  clear ev1
  subst ev1' 
  obtain ⟨W1, hW1⟩ : ∃ W1, W1 = w1.alloc (.cells #[.int .i64 99, .slice a1 n1 c1, .slice a2 n2 c2, .slice a3 n3 c3, .int .i64 1] 33) := ⟨_, rfl⟩
  obtain ⟨B, hB⟩ : ∃ B, B = w1.heap.size := ⟨_, rfl⟩
  have HW1 : Hid (w1.alloc (.cells #[.int .i64 99, .slice a1 n1 c1, .slice a2 n2 c2, .slice a3 n3 c3, .int .i64 1] 33) = W1) := hW1.symm
  have HO1 : Hid (OwnS W1 w.heap.size B sA ∧ Below w.heap.size w W1) := by
    rw [hW1, hB]
    exact ⟨ov1.laid, up_al u1 _⟩
  have HBw : Hid (w.heap.size ≤ B) := by rw [hB]; exact u1.size
  have hb1 : W1.heap[B]? = some (.cells #[.int .i64 99, .slice a1 n1 c1, .slice a2 n2 c2, .slice a3 n3 c3, .int .i64 1] 33) := by rw [hW1, hB]; exact blk_new w1 _
  have HS1 : Hid (StW W1 (.agg #[.int .i64 99, .slice a1 n1 c1, .slice a2 n2 c2, .slice a3 n3 c3, .int .i64 1]) sA) := by
    rw [hW1]
    exact (StW.own ov1).up (up_al (Below.refl _ _) _)
  have HB1 : Hid (W1.heap[B]? = some (.cells #[.int .i64 99, .slice a1 n1 c1, .slice a2 n2 c2, .slice a3 n3 c3, .int .i64 1] 33)) := hb1
  clear hW1 ov1 u1
  go_upto_region 2 with fail
  rw [HW1.out, ← hB]
  clear HW1 hB
  have q0 := blk_cell hb1 0 _ rfl
  have q1 := blk_cell hb1 1 _ rfl
  have q2 := blk_cell hb1 2 _ rfl
  have q3 := blk_cell hb1 3 _ rfl
  have q4 := blk_cell hb1 4 _ rfl
  clear hb1
  have HC1 : Hid (Calls Try.prog 56 #[] W1.drew fun e w' => ∃ b, e = .returned (.slice (some ⟨b, 0, none⟩) 4 4) ∧ w'.cell? ⟨B, 0, none⟩ = some (.int .i64 99) ∧ w'.cell? ⟨B, 1, none⟩ = some (.slice a1 n1 c1) ∧ w'.cell? ⟨B, 2, none⟩ = some (.slice a2 n2 c2) ∧ w'.cell? ⟨B, 3, none⟩ = some (.slice a3 n3 c3) ∧ w'.cell? ⟨B, 4, none⟩ = some (.int .i64 1) ∧
      Hid (ActsW w' (.slice (some ⟨b, 0, none⟩) 4 4) xyzL ∧ Below W1.heap.size W1 w')) := by
    refine (xyz_any _).mono ?_
    rintro e w' ⟨b, rfl, ha, hu⟩
    have hu' : Below W1.heap.size W1 w' := up_trans (up_dr (Below.refl _ _)) hu
    have hb := blk_up HB1.out hu'
    exact ⟨b, rfl, blk_cell hb 0 _ rfl, blk_cell hb 1 _ rfl, blk_cell hb 2 _ rfl, blk_cell hb 3 _ rfl, blk_cell hb 4 _ rfl, ha, hu'⟩
  have HC2 : Hid (∀ X b, ActsW X (.slice (some ⟨b, 0, none⟩) 4 4) xyzL ∧ Below W1.heap.size W1 X → Calls Try.prog 26 #[.agg #[.int .i64 99, .slice a1 n1 c1, .slice a2 n2 c2, .slice a3 n3 c3, .int .i64 1], .slice (some ⟨b, 0, none⟩) 3 4] X fun e w' =>
      ∃ a4 n4 c4 a5 n5 c5 a6 n6 c6, e = .returned (.tuple #[.agg #[.int .i64 99, .slice a4 n4 c4, .slice a5 n5 c5, .slice a6 n6 c6, .int .i64 2], .int .i64 3, .int .i64 0]) ∧ w'.cell? ⟨B, 0, none⟩ = some (.int .i64 99) ∧ w'.cell? ⟨B, 1, none⟩ = some (.slice a1 n1 c1) ∧ w'.cell? ⟨B, 2, none⟩ = some (.slice a2 n2 c2) ∧ w'.cell? ⟨B, 3, none⟩ = some (.slice a3 n3 c3) ∧ w'.cell? ⟨B, 4, none⟩ = some (.int .i64 1) ∧
        w'.frozen? ⟨B, 0, none⟩ = false ∧ w'.frozen? ⟨B, 1, none⟩ = false ∧ w'.frozen? ⟨B, 2, none⟩ = false ∧ w'.frozen? ⟨B, 3, none⟩ = false ∧ w'.frozen? ⟨B, 4, none⟩ = false ∧
        Hid (OwnS (set5 w' B (.int .i64 99) (.slice a4 n4 c4) (.slice a5 n5 c5) (.slice a6 n6 c6) (.int .i64 2)) w.heap.size B sB ∧ Below w.heap.size w (set5 w' B (.int .i64 99) (.slice a4 n4 c4) (.slice a5 n5 c5) (.slice a6 n6 c6) (.int .i64 2)))) := by
    rintro X b ⟨ha, hu⟩
    refine (run_any sA (xyzL.take 3) _ _ X (HS1.out.up hu) (ha.taken 3 (by decide)) (by decide) (fun _ => al8)).mono ?_
    rintro e w' ⟨v', rfl, ov, hu2⟩
    rw [al2] at ov ⊢
    obtain ⟨a4, n4, c4, a5, n5, c5, a6, n6, c6, ev⟩ := ov.shape
    have ev' : v' = .agg #[.int .i64 99, .slice a4 n4 c4, .slice a5 n5 c5, .slice a6 n6 c6, .int .i64 2] := ev
    clear ev
    subst ev' 
    have hu' := up_trans hu hu2
    have hb := blk_up HB1.out hu'
    have hww : Below w.heap.size w w' := up_trans HO1.out.2 hu'
    exact ⟨a4, n4, c4, a5, n5, c5, a6, n6, c6, rfl, blk_cell hb 0 _ rfl, blk_cell hb 1 _ rfl, blk_cell hb 2 _ rfl, blk_cell hb 3 _ rfl, blk_cell hb 4 _ rfl, blk_frozen hb 0, blk_frozen hb 1, blk_frozen hb 2, blk_frozen hb 3, blk_frozen hb 4,
      ((ov.mono (Nat.le_trans HO1.out.2.size hu.size)).put hb).1, hww.grown (set5_grown _ _ _ _ _ _ _) hww.size (fun j hj => by injection hj with hj; rw [← hj]; exact HBw.out)⟩
  go_cut [3, 4] from 13 to 24 (fun s3 s4 wx => s3 = .int .i64 3 ∧ s4 = .int .i64 0 ∧ Hid (OwnS wx w.heap.size B sB ∧ Below w.heap.size w wx))
  case first =>
    go_region_with (first | (go_at_call 56; refine HC1.out.mono ?_; rintro e w' ⟨b, rfl, y0, y1, y2, y3, y4, ya⟩) | (go_at_call 26; refine (HC2.out _ _ ya.out).mono ?_; rintro e w' ⟨a4, n4, c4, a5, n5, c5, a6, n6, c6, rfl, z0, z1, z2, z3, z4, f0, f1, f2, f3, f4, hs⟩))
    all_goals
      go_wp2_with fail
      go_meet
      case rel => exact ⟨rfl, rfl, hs⟩
  case rest =>
  obtain ⟨rfl, rfl, HO2⟩ := hcut
  clear HC1 HC2 HS1 HB1 HO1 q0 q1 q2 q3 q4
  clear a1 n1 c1 a2 n2 c2 a3 n3 c3
  have hsh := HO2.out.1.shape
  obtain ⟨a1, n1, c1, a2, n2, c2, a3, n3, c3, hb, ov⟩ := hsh
  have hb' : wc.heap[B]? = some (.cells #[.int .i64 99, .slice a1 n1 c1, .slice a2 n2 c2, .slice a3 n3 c3, .int .i64 2] 33) := hb
  have HV2 : Hid (StW wc (.agg #[.int .i64 99, .slice a1 n1 c1, .slice a2 n2 c2, .slice a3 n3 c3, .int .i64 2]) sB) := StW.own ov
  have q0 := blk_cell hb' 0 _ rfl
  have q1 := blk_cell hb' 1 _ rfl
  have q2 := blk_cell hb' 2 _ rfl
  have q3 := blk_cell hb' 3 _ rfl
  have q4 := blk_cell hb' 4 _ rfl
  clear hb hb' ov
  go_wp2_with fail
  refine (crash_any sB [] _ _ wc HV2.out ⟨(fun x hx => by cases hx), Rws.nil 1 wc⟩ (by decide)).mono ?_
  rintro e w3 ⟨v3, rfl, ov3, u3⟩
  rw [al3] at ov3 ⊢
  obtain ⟨a4, n4, c4, a5, n5, c5, a6, n6, c6, e9⟩ := ov3.shape
  have e9' : v3 = .agg #[.int .i64 99, .slice a4 n4 c4, .slice a5 n5 c5, .slice a6 n6 c6, .int .i64 2] := e9
  clear e9
  subst e9'
  obtain ⟨W3, hW3⟩ : ∃ W3, W3 = w3.alloc (.cells #[.int .i64 99, .slice a4 n4 c4, .slice a5 n5 c5, .slice a6 n6 c6, .int .i64 2] 33) := ⟨_, rfl⟩
  obtain ⟨F, hF⟩ : ∃ F, F = w3.heap.size := ⟨_, rfl⟩
  have HW3 : Hid (w3.alloc (.cells #[.int .i64 99, .slice a4 n4 c4, .slice a5 n5 c5, .slice a6 n6 c6, .int .i64 2] 33) = W3) := hW3.symm
  have uW3 : Below wc.heap.size wc W3 := by rw [hW3]; exact up_al u3 _
  have HO3 : Hid (OwnS W3 w.heap.size B sB ∧ Below w.heap.size w W3 ∧ w.heap.size ≤ F ∧ B ≠ F) := by
    have hlt := HO2.out.1.lt
    have := u3.size
    exact ⟨HO2.out.1.up uW3, up_trans HO2.out.2 uW3, by rw [hF]; exact Nat.le_trans HO2.out.2.size u3.size, by omega⟩
  have hb3 : W3.heap[F]? = some (.cells #[.int .i64 99, .slice a4 n4 c4, .slice a5 n5 c5, .slice a6 n6 c6, .int .i64 2] 33) := by rw [hW3, hF]; exact blk_new w3 _
  have HB3 : Hid (W3.heap[F]? = some (.cells #[.int .i64 99, .slice a4 n4 c4, .slice a5 n5 c5, .slice a6 n6 c6, .int .i64 2] 33)) := hb3
  have HS3 : Hid (StW W3 (.agg #[.int .i64 99, .slice a4 n4 c4, .slice a5 n5 c5, .slice a6 n6 c6, .int .i64 2]) sC) := by
    rw [hW3]
    exact (StW.own ov3).up (up_al (Below.refl _ _) _)
  clear hW3 ov3 u3 uW3 q0 q1 q2 q3 q4 HV2 HO2
  go_upto_region 4 with fail
  rw [HW3.out, ← hF]
  clear HW3 hF
  have q0 := blk_cell hb3 0 _ rfl
  have q1 := blk_cell hb3 1 _ rfl
  have q2 := blk_cell hb3 2 _ rfl
  have q3 := blk_cell hb3 3 _ rfl
  have q4 := blk_cell hb3 4 _ rfl
  clear hb3
  go_wp2_with fail
  rw [← S1.out]
  refine (read_any sC [97] (by unfold OctL; decide) _ W3 HS3.out (by decide)).mono ?_
  rintro e w4 ⟨v4, rfl, ob4, _, u4⟩
  rw [al4] at ob4 ⊢
  have HO4 : Hid (OwnS w4 w.heap.size B sB ∧ Below w.heap.size w w4 ∧ w.heap.size ≤ F ∧ B ≠ F ∧ w4.heap[F]? = some (.cells #[.int .i64 99, .slice a4 n4 c4, .slice a5 n5 c5, .slice a6 n6 c6, .int .i64 2] 33)) :=
    ⟨HO3.out.1.up u4, up_trans HO3.out.2.1 u4, HO3.out.2.2.1, HO3.out.2.2.2, blk_up HB3.out u4⟩
  clear ob4 u4 HO3 HB3 HS3 q0 q1 q2 q3 q4
  obtain ⟨a1, n1, c1, a2, n2, c2, a3, n3, c3, hb, ov⟩ := HO4.out.1.shape
  have hb' : w4.heap[B]? = some (.cells #[.int .i64 99, .slice a1 n1 c1, .slice a2 n2 c2, .slice a3 n3 c3, .int .i64 2] 33) := hb
  have HV4 : Hid (StW w4 (.agg #[.int .i64 99, .slice a1 n1 c1, .slice a2 n2 c2, .slice a3 n3 c3, .int .i64 2]) sB) := StW.own ov
  have HB4 : Hid (w4.heap[B]? = some (.cells #[.int .i64 99, .slice a1 n1 c1, .slice a2 n2 c2, .slice a3 n3 c3, .int .i64 2] 33)) := hb'
  have q0 := blk_cell hb' 0 _ rfl
  have q1 := blk_cell hb' 1 _ rfl
  have q2 := blk_cell hb' 2 _ rfl
  have q3 := blk_cell hb' 3 _ rfl
  have q4 := blk_cell hb' 4 _ rfl
  clear hb hb' ov
  have HC1 : Hid (Calls Try.prog 56 #[] w4.drew fun e w' => ∃ b ad cd, e = .returned (.slice (some ⟨b, 0, none⟩) 4 4) ∧ w'.cell? ⟨B, 0, none⟩ = some (.int .i64 99) ∧ w'.cell? ⟨B, 1, none⟩ = some (.slice a1 n1 c1) ∧ w'.cell? ⟨B, 2, none⟩ = some (.slice a2 n2 c2) ∧ w'.cell? ⟨B, 3, none⟩ = some (.slice a3 n3 c3) ∧ w'.cell? ⟨B, 4, none⟩ = some (.int .i64 2) ∧
      w'.cell? ⟨b, 12, none⟩ = some (.int .i64 6) ∧ w'.cell? ⟨b, 13, none⟩ = some (.string ⟨#[]⟩) ∧ w'.cell? ⟨b, 14, none⟩ = some (.string ⟨#[]⟩) ∧ w'.cell? ⟨b, 15, none⟩ = some (.slice ad 0 cd) ∧
      Hid (AcW w' (.agg #[.int .i64 6, .string ⟨#[]⟩, .string ⟨#[]⟩, .slice ad 0 cd]) ⟨6, [], [], []⟩ ∧ Below w4.heap.size w4 w')) := by
    refine (xyz_any _).mono ?_
    rintro e w' ⟨b, rfl, ha, hu⟩
    have hu' : Below w4.heap.size w4 w' := up_trans (up_dr (Below.refl _ _)) hu
    have hb := blk_up HB4.out hu'
    obtain ⟨b', off, cap, ad, cd, ek, k0, k1, k2, k3, hac⟩ := ha.at 3 (by decide)
    simp at ek
    obtain ⟨⟨rfl, rfl⟩, _⟩ := ek
    rw [Nat.zero_add] at k0 k1 k2 k3
    have s0 : strOfNums [] = ⟨#[]⟩ := by decide
    have g : xyzL.getD 3 noAc = ⟨6, [], [], []⟩ := rfl
    rw [g] at k0 k1 k2 k3 hac
    simp only [s0] at k1 k2 hac
    exact ⟨b, ad, cd, rfl, blk_cell hb 0 _ rfl, blk_cell hb 1 _ rfl, blk_cell hb 2 _ rfl, blk_cell hb 3 _ rfl, blk_cell hb 4 _ rfl, k0, k1, k2, k3, hac, hu'⟩
  have HC2 : Hid (∀ X ad cd, AcW X (.agg #[.int .i64 6, .string ⟨#[]⟩, .string ⟨#[]⟩, .slice ad 0 cd]) ⟨6, [], [], []⟩ ∧ Below w4.heap.size w4 X → Calls Try.prog 11 #[.agg #[.int .i64 99, .slice a1 n1 c1, .slice a2 n2 c2, .slice a3 n3 c3, .int .i64 2], .agg #[.int .i64 6, .string ⟨#[]⟩, .string ⟨#[]⟩, .slice ad 0 cd]] X fun e w' =>
      ∃ a7 n7 c7 a8 n8 c8 a9 n9 c9, e = .returned (.tuple #[.agg #[.int .i64 99, .slice a7 n7 c7, .slice a8 n8 c8, .slice a9 n9 c9, .int .i64 2], .int .i64 0]) ∧ w'.cell? ⟨B, 0, none⟩ = some (.int .i64 99) ∧ w'.cell? ⟨B, 1, none⟩ = some (.slice a1 n1 c1) ∧ w'.cell? ⟨B, 2, none⟩ = some (.slice a2 n2 c2) ∧ w'.cell? ⟨B, 3, none⟩ = some (.slice a3 n3 c3) ∧ w'.cell? ⟨B, 4, none⟩ = some (.int .i64 2) ∧
        w'.frozen? ⟨B, 0, none⟩ = false ∧ w'.frozen? ⟨B, 1, none⟩ = false ∧ w'.frozen? ⟨B, 2, none⟩ = false ∧ w'.frozen? ⟨B, 3, none⟩ = false ∧ w'.frozen? ⟨B, 4, none⟩ = false ∧
        Hid (OwnS (set5 w' B (.int .i64 99) (.slice a7 n7 c7) (.slice a8 n8 c8) (.slice a9 n9 c9) (.int .i64 2)) w.heap.size B sD ∧ Below w.heap.size w (set5 w' B (.int .i64 99) (.slice a7 n7 c7) (.slice a8 n8 c8) (.slice a9 n9 c9) (.int .i64 2)) ∧ (set5 w' B (.int .i64 99) (.slice a7 n7 c7) (.slice a8 n8 c8) (.slice a9 n9 c9) (.int .i64 2)).heap[F]? = some (.cells #[.int .i64 99, .slice a4 n4 c4, .slice a5 n5 c5, .slice a6 n6 c6, .int .i64 2] 33))) := by
    rintro X ad cd ⟨ha, hu⟩
    refine (do_any sB ⟨6, [], [], []⟩ _ _ X (HV4.out.up hu) ha (by decide)).mono ?_
    rintro e w' ⟨v', rfl, ov, hu2⟩
    rw [al5] at ov ⊢
    obtain ⟨a7, n7, c7, a8, n8, c8, a9, n9, c9, ev⟩ := ov.shape
    have ev' : v' = .agg #[.int .i64 99, .slice a7 n7 c7, .slice a8 n8 c8, .slice a9 n9 c9, .int .i64 2] := ev
    clear ev
    subst ev'
    have hu' := up_trans hu hu2
    have hb := blk_up HB4.out hu'
    have hww : Below w.heap.size w w' := up_trans HO4.out.2.1 hu'
    exact ⟨a7, n7, c7, a8, n8, c8, a9, n9, c9, rfl, blk_cell hb 0 _ rfl, blk_cell hb 1 _ rfl, blk_cell hb 2 _ rfl, blk_cell hb 3 _ rfl, blk_cell hb 4 _ rfl, blk_frozen hb 0, blk_frozen hb 1, blk_frozen hb 2, blk_frozen hb 3, blk_frozen hb 4,
      ((ov.mono (Nat.le_trans HO4.out.2.1.size hu.size)).put hb).1, hww.grown (set5_grown _ _ _ _ _ _ _) hww.size (fun j hj => by injection hj with hj; rw [← hj]; exact HBw.out), blk_grown (blk_up HO4.out.2.2.2.2 hu') (set5_grown _ _ _ _ _ _ _) (by intro q; injection q with q; exact HO4.out.2.2.2.1 q.symm)⟩
  go_upto_region 5 with fail
  go_cut [9] from 13 to 42 (fun s9 wx => s9 = .int .i64 0 ∧ Hid (OwnS wx w.heap.size B sD ∧ Below w.heap.size w wx ∧ wx.heap[F]? = some (.cells #[.int .i64 99, .slice a4 n4 c4, .slice a5 n5 c5, .slice a6 n6 c6, .int .i64 2] 33)))
  case first =>
    go_region_with (first | (go_at_call 56; refine HC1.out.mono ?_; rintro e w' ⟨b, ad, cd, rfl, y0, y1, y2, y3, y4, y5, y6, y7, y8, ya⟩) | (go_at_call 11; refine (HC2.out _ _ _ ya.out).mono ?_; rintro e w' ⟨a7, n7, c7, a8, n8, c8, a9, n9, c9, rfl, z0, z1, z2, z3, z4, f0, f1, f2, f3, f4, hs⟩))
    all_goals
      go_wp2_with fail
      go_meet
      case rel => exact ⟨rfl, hs⟩
  case rest =>
  obtain ⟨rfl, HO5⟩ := hcut
  have HF : Hid (w.heap.size ≤ F) := HO4.out.2.2.1
  clear HC1 HC2 HV4 HB4 HO4 q0 q1 q2 q3 q4
  obtain ⟨b1, m1, d1, b2, m2, d2, b3, m3, d3, hb, ov⟩ := HO5.out.1.shape
  have hb' : wc.heap[B]? = some (.cells #[.int .i64 99, .slice b1 m1 d1, .slice b2 m2 d2, .slice b3 m3 d3, .int .i64 2] 33) := hb
  have HV5 : Hid (StW wc (.agg #[.int .i64 99, .slice b1 m1 d1, .slice b2 m2 d2, .slice b3 m3 d3, .int .i64 2]) sD) := StW.own ov
  have q0 := blk_cell hb' 0 _ rfl
  have q1 := blk_cell hb' 1 _ rfl
  have q2 := blk_cell hb' 2 _ rfl
  have q3 := blk_cell hb' 3 _ rfl
  have q4 := blk_cell hb' 4 _ rfl
  clear hb hb' ov
  go_wp2_with fail
  refine (crash_any sD [] _ _ wc HV5.out ⟨(fun x hx => by cases hx), Rws.nil 1 wc⟩ (by decide)).mono ?_
  rintro e w6 ⟨v6, rfl, ov6, u6⟩
  rw [al6] at ov6 ⊢
  obtain ⟨b4, m4, d4, b5, m5, d5, b6, m6, d6, e9⟩ := ov6.shape
  have e9' : v6 = .agg #[.int .i64 99, .slice b4 m4 d4, .slice b5 m5 d5, .slice b6 m6 d6, .int .i64 2] := e9
  clear e9
  subst e9'
  have hf6 := blk_up HO5.out.2.2 u6
  have hu6 := up_trans HO5.out.2.1 u6
  clear q0 q1 q2 q3 q4
  have q0 := blk_cell hf6 0 _ rfl
  have q1 := blk_cell hf6 1 _ rfl
  have q2 := blk_cell hf6 2 _ rfl
  have q3 := blk_cell hf6 3 _ rfl
  have q4 := blk_cell hf6 4 _ rfl
  have f0 := blk_frozen hf6 0
  have f1 := blk_frozen hf6 1
  have f2 := blk_frozen hf6 2
  have f3 := blk_frozen hf6 3
  have f4 := blk_frozen hf6 4
  obtain ⟨W6, hW6⟩ : ∃ W6, W6 = set5 w6 F (.int .i64 99) (.slice b4 m4 d4) (.slice b5 m5 d5) (.slice b6 m6 d6) (.int .i64 2) := ⟨_, rfl⟩
  have HW6 : Hid (((((w6.setCell ⟨F, 0, none⟩ (.int .i64 99)).setCell ⟨F, 1, none⟩ (.slice b4 m4 d4)).setCell ⟨F, 2, none⟩ (.slice b5 m5 d5)).setCell ⟨F, 3, none⟩ (.slice b6 m6 d6)).setCell ⟨F, 4, none⟩ (.int .i64 2) = W6) := by unfold Hid; rw [hW6]; rfl
  have hb6 : W6.heap[F]? = some (.cells #[.int .i64 99, .slice b4 m4 d4, .slice b5 m5 d5, .slice b6 m6 d6, .int .i64 2] 33) := by rw [hW6]; exact set5_blk hf6 _ _ _ _ _
  have HV6 : Hid (StW W6 (.agg #[.int .i64 99, .slice b4 m4 d4, .slice b5 m5 d5, .slice b6 m6 d6, .int .i64 2]) sD ∧ Below w.heap.size w W6) := by
    rw [hW6]
    exact ⟨StW.own (ov6.put hf6).2, hu6.grown (set5_grown _ _ _ _ _ _ _) hu6.size (fun j hj => by injection hj with hj; rw [← hj]; exact HF.out)⟩
  clear hW6 hu6 hf6 ov6 u6
  go_upto_region 7 with fail
  rw [HW6.out]
  clear HW6 q0 q1 q2 q3 q4 f0 f1 f2 f3 f4
  have q0 := blk_cell hb6 0 _ rfl
  have q1 := blk_cell hb6 1 _ rfl
  have q2 := blk_cell hb6 2 _ rfl
  have q3 := blk_cell hb6 3 _ rfl
  have q4 := blk_cell hb6 4 _ rfl
  clear hb6
  go_wp2_with fail
  rw [← S1.out]
  refine (read_any sD [97] (by unfold OctL; decide) _ W6 HV6.out.1 (by decide)).mono ?_
  rintro e w7 ⟨v7, rfl, ob7, oc7, u7⟩
  rw [al7] at ob7 oc7 ⊢
  have HU7 : Hid (Below w.heap.size w w7) := up_trans HV6.out.2 u7
  have kc := run_convert_octs [120, 121, 122] v7 w7 (Octs.own ob7 oc7)
  have s3 : strOfNums [120, 121, 122] = ⟨#[120, 121, 122]⟩ := by decide
  rw [s3] at kc
  clear s3 ob7 oc7 u7 HV6 HO5 HV5 q0 q1 q2 q3 q4
  go_wp2_with (go_at_call 20; refine (num_any _ _).mono ?_; rintro e wq ⟨rfl, hwq⟩; rw [hwq]; clear hwq wq)
  go_ret
  exact ⟨rfl, HU7.out⟩
end Go.Proofs.Ytoceddpjkodfkaa
