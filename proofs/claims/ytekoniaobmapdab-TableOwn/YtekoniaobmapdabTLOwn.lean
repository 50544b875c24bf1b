/- TableOwn walked upon what is wanted of the program. -/
import Derived.Test.YtekoniaobmapdabG32
import Derived.Test.YtekoniaobmapdabTBuild
namespace Go.Proofs.Ytekoniaobmapdab
open Go.RowKit SumPlain
set_option linter.unusedVariables false
set_option linter.unusedSimpArgs false

theorem set_getO {A : Type} (l : List A) (i : Nat) (x d : A) (h : i < l.length) : (l.set i x).getD i d = x := by simp [List.getD, h]
theorem OwnR.set4 {w : World} {base : Nat} {e : TypeId} {g n cap : Nat} {css : List (List Value)} (h : OwnR w base e 4 (.slice (some ⟨g, 0, none⟩) n cap) css) (hn : css.length = n) (i : Nat) (hi : i < n) (a b c d : Value) :
    OwnR ((((w.setCell ⟨g, i * 4, none⟩ a).setCell ⟨g, i * 4 + 1, none⟩ b).setCell ⟨g, i * 4 + 2, none⟩ c).setCell ⟨g, i * 4 + 3, none⟩ d) base e 4 (.slice (some ⟨g, 0, none⟩) n cap) (css.set i [a, b, c, d]) ∧
      w.grownBy ((((w.setCell ⟨g, i * 4, none⟩ a).setCell ⟨g, i * 4 + 1, none⟩ b).setCell ⟨g, i * 4 + 2, none⟩ c).setCell ⟨g, i * 4 + 3, none⟩ d) (some g) := by
  obtain ⟨x0, x1, x2, x3, hx⟩ : ∃ x0 x1 x2 x3, css.getD i [] = [x0, x1, x2, x3] := by
    have hm : css.getD i [] ∈ css := by
      have : i < css.length := by omega
      simp [List.getD, this]
    have hl := h.1 _ hm
    match hq : css.getD i [], hl with
    | [x0, x1, x2, x3], _ => exact ⟨x0, x1, x2, x3, rfl⟩
  have s0 := h.set hn i hi 0 (by decide) a
  rw [hx, Nat.add_zero] at s0
  have s1 := s0.1.set (by rw [List.length_set]; exact hn) i hi 1 (by decide) b
  rw [set_getO _ _ _ _ (by omega), List.set_set] at s1
  have s2 := s1.1.set (by rw [List.length_set]; exact hn) i hi 2 (by decide) c
  rw [set_getO _ _ _ _ (by omega), List.set_set] at s2
  have s3 := s2.1.set (by rw [List.length_set]; exact hn) i hi 3 (by decide) d
  rw [set_getO _ _ _ _ (by omega), List.set_set] at s3
  exact ⟨s3.1, grown_trans (grown_trans (grown_trans s0.2.1 s1.2.1) s2.2.1) s3.2.1⟩

set_option maxHeartbeats 4000000 in
set_option maxRecDepth 100000 in
theorem own_walk10 (P : PgT) (l : List En) (va : Option Addr) (vn vc : Nat) (w : World) (hvn : vn = l.length) (hl : EntsR w (.slice va vn vc) l) (hll : vn ≤ 4398046511104) :
    Calls Try.prog 3 #[.slice va vn vc] w fun e w' => e = .returned (.bool true) ∧ Below w.heap.size w w' := by
  have HL : Hid (EntsR w (.slice va vn vc) l) := hl
  have HLL : Hid (l.length ≤ 4398046511104) := by unfold Hid; omega
  have HP : Hid PgT := P
  have HN : Hid (∀ (x : Int) (W : World), Calls Try.prog 8 #[.int .i64 x] W fun e w' => e = .returned (.int .i64 x) ∧ w' = W) := num_any
  have HBO := hid (buildB_oct l)
  have HBL := hid (buildB_len l)
  have HOP : Hid ((buildB l).2 = 0 → openB (buildB l).1 = (l, filT l, 0)) := fun h => by
    have hc := buildB_zero.1 h
    rw [buildB_good hc]
    exact open_tab hc
  have HBD := hid (HP.out.build l)
  have HRB := hid (refBuild_any l)
  clear hl hll hvn P
  generalize (buildB l).2 = q at *
  generalize (buildB l).1 = B at *
  go_enter Try.func3, Try.ntmps3
  go_wp2_with fail
  refine (HP.out.alive _).mono ?_
  rintro e w1 ⟨rfl, b1⟩
  have U1 : Hid (Below w.heap.size w w1) := b1
  clear b1
  have HC := hid (copyEnts_own l _ w1 (HL.out.up U1.out) HLL.out)
  go_wp2_with fail
  refine HC.out.mono ?_
  rintro e w2 ⟨oa, on, oc, rfl, O2', b2⟩
  have O2 : Hid (OwnR w2 w1.heap.size 32 4 (.slice oa on oc) (l.map enRow)) := O2'
  have U2 : Hid (Below w.heap.size w w2) := up_trans U1.out b2
  have S1 : Hid (w.heap.size ≤ w1.heap.size) := U1.out.size
  clear HC O2' b2 U1
  go_wp2_with fail
  refine (HBD.out _ _ (Rws.own O2.out)).mono ?_
  rintro e w3 ⟨pa, pn, pc, rfl, hpn, P3, b3⟩
  have U3 : Hid (Below w.heap.size w w3) := up_trans U2.out b3.out
  have O3 : Hid (OwnR w3 w1.heap.size 32 4 (.slice oa on oc) (l.map enRow)) := O2.out.up b3.out
  have S2 : Hid (w.heap.size ≤ w2.heap.size) := U2.out.size
  clear b3 O2 U2
  go_wp2_with fail
  refine (HRB.out _ _ (HL.out.up U3.out)).mono ?_
  rintro e w4 ⟨qa, qn, qc, rfl, hqn, Q4, b4⟩
  have U4 : Hid (Below w.heap.size w w4) := up_trans U3.out b4.out
  have O4 : Hid (OwnR w4 w1.heap.size 32 4 (.slice oa on oc) (l.map enRow)) := O3.out.up b4.out
  have P4 : Hid (OwnB w4 w2.heap.size (.slice pa pn pc) B) := own_up P3.out b4.out
  clear b4 O3 P3 U3 HBD HRB
  have hon : Hid (on = l.length) := by
    obtain ⟨_, _, e, _, _⟩ := (Rws.own O4.out).len
    simp only [Value.slice.injEq, List.length_map] at e
    exact e.2.1
  go_wp2_with fail
  go_loopw [8] (fun i wr => ∃ (k : Nat) (L' : List En), k ≤ on ∧ i = .int .i64 (k : Int) ∧ Hid (L'.length = on) ∧ Hid (OwnR wr w1.heap.size 32 4 (.slice oa on oc) (L'.map enRow)) ∧ Hid (OwnB wr w2.heap.size (.slice pa pn pc) B) ∧ Hid (OwnB wr w3.heap.size (.slice qa qn qc) B) ∧ Hid (Below w.heap.size w wr)) (fun i _ => on - (intOf i).toNat)
  case atStart => exact ⟨0, l, by omega, rfl, hon.out.symm, O4, P4, Q4, U4⟩
  case round =>
    clear O4 P4 Q4 U4
    obtain ⟨k, L', hk, rfl, hL', KR, PR, QR, UR⟩ := hrel
    have hk63 : on ≤ 9223372036854775807 := by
      obtain ⟨_, _, e, h4, h5⟩ := (Rws.own KR.out).len
      simp only [Value.slice.injEq, List.length_map] at e
      unfold maxLen at h5
      simp only [List.length_map] at h4
      omega
    by_cases hlt : k < on
    · have hlt' : (k : Int) < (on : Int) := by omega
      obtain ⟨g, rfl⟩ : ∃ g, oa = some ⟨g, 0, none⟩ := by
        obtain ⟨_, _, h⟩ := KR.out
        rcases h with ⟨e, h0⟩ | ⟨g, c2, cur, e, _⟩
        · simp only [List.length_map] at h0
          have := hL'.out
          omega
        · simp at e
          exact ⟨g, e.1⟩
      obtain ⟨b', off', cap', x, e', hx, x0, x1, x2, x3⟩ := EntsR.at (show EntsR wr _ L' from Rws.own KR.out) k (by rw [hL'.out]; exact hlt)
      simp only [Value.slice.injEq, Option.some.injEq, Addr.mk.injEq] at e'
      obtain ⟨⟨rfl, rfl, _⟩, eoo, rfl⟩ := e'
      clear eoo
      rw [Nat.zero_add] at x0 x1 x2 x3
      have f0 := (KR.out.set (by rw [List.length_map]; exact hL'.out) k hlt 0 (by decide) (.int .u8 0)).2.2
      have f1 := (KR.out.set (by rw [List.length_map]; exact hL'.out) k hlt 1 (by decide) (.int .u8 0)).2.2
      have f2 := (KR.out.set (by rw [List.length_map]; exact hL'.out) k hlt 2 (by decide) (.int .u8 0)).2.2
      have f3 := (KR.out.set (by rw [List.length_map]; exact hL'.out) k hlt 3 (by decide) (.int .u8 0)).2.2
      rw [Nat.add_zero] at f0
      have S4 := KR.out.set4 (by rw [List.length_map]; exact hL'.out) k hlt (.string ⟨#[]⟩) (.int .i64 0) (.int .i64 0) (.string ⟨#[]⟩)
      have HG4 := S4.2
      have HS4 : Hid (OwnR ((((wr.setCell ⟨g, k * 4, none⟩ (.string ⟨#[]⟩)).setCell ⟨g, k * 4 + 1, none⟩ (.int .i64 0)).setCell ⟨g, k * 4 + 2, none⟩ (.int .i64 0)).setCell ⟨g, k * 4 + 3, none⟩ (.string ⟨#[]⟩)) w1.heap.size 32 4 (.slice (some ⟨g, 0, none⟩) on oc) ((L'.set k default).map enRow)) := by
        have := S4.1
        unfold Hid
        rw [List.map_set]
        exact this
      have HP4 := hid (World.ownsRow.kept PR.out HG4 (own_own_ne PR.out KR.out.2 (by decide)))
      have HQ4 := hid (World.ownsRow.kept QR.out HG4 (own_own_ne QR.out KR.out.2 (by decide)))
      have HU4 := hid (UR.out.grown HG4 UR.out.size (fun z hz => by
        injection hz with hz
        rw [← hz]
        have h1 := (KR.out.2.lt g rfl).1
        have h2 := S1.out
        omega))
      clear S4 HG4 KR PR QR UR hx
      go_wp2_with fail
      exact ⟨⟨k + 1, L'.set k default, by omega, by go_num, by unfold Hid; rw [List.length_set]; exact hL'.out, HS4, HP4, HQ4, HU4⟩, by simp [intOf]; omega⟩
    · have hlt' : ¬ (k : Int) < (on : Int) := by omega
      have HSB := hid (sameB_law B _ _ wr (Octs.own PR.out HBO.out) (Octs.own QR.out HBO.out))
      have HOPN := hid (HP.out.opn B pa pn pc wr hpn.out (Octs.own PR.out HBO.out) (by have h1 := hpn.out; have h2 := HBL.out; omega))
      go_wp2_with fail
      refine (HN.out _ _).mono ?_
      rintro e w5 ⟨rfl, rfl⟩
      go_wp2_with fail
      refine HSB.out.mono ?_
      rintro e w6 ⟨rfl, rfl⟩
      go_wp2_with fail
      refine HOPN.out.mono ?_
      rintro e w7 ⟨ea, en, ec, fa, fn, fc, rfl, HE, HF, b7⟩
      obtain ⟨w8, hw8⟩ : ∃ w8, w8 = w7.alloc (.cells #[.slice ea en ec, .int .i64 (openB B).2.1.1, .slice fa fn fc] 38) := ⟨_, rfl⟩
      have HW8 : Hid (w7.alloc (.cells #[.slice ea en ec, .int .i64 (openB B).2.1.1, .slice fa fn fc] 38) = w8) := hw8.symm
      have B8 : Hid (w8.heap[w7.heap.size]? = some (.cells #[.slice ea en ec, .int .i64 (openB B).2.1.1, .slice fa fn fc] 38)) := by rw [hw8]; exact blk_new _ _
      have V8 : Below w7.heap.size w7 w8 := by rw [hw8]; exact up_alloc _ _
      have U8 := hid (up_trans (up_trans UR.out b7.out) V8)
      have P8 : Hid (OwnB w8 w2.heap.size (.slice pa pn pc) B) := own_up (own_up PR.out b7.out) V8
      have E8 := hid (HE.out.2.up V8)
      have HSP := hid (spoil_any B _ w8 _ P8.out HBO.out (by have := HBL.out; omega))
      clear hw8 V8 HE HF b7 HSB HOPN QR PR KR UR
      go_upto_region 13 with fail
      rw [HW8.out]
      go_wp2_with fail
      refine HSP.out.mono ?_
      rintro e w9 ⟨⟨u9, rfl⟩, g9⟩
      have E9 := hid (E8.out.far g9 (own_own_ne E8.out.2 P8.out (by decide)))
      have B9 : Hid (w9.heap[w7.heap.size]? = some (.cells #[.slice ea en ec, .int .i64 (openB B).2.1.1, .slice fa fn fc] 38)) := blk_grown B8.out g9 (fun e => by
        rcases own_blk_ne P8.out B8.out (by decide) with z | z
        · rw [z] at e; cases e
        · exact z e.symm)
      have U9 := hid (U8.out.grown g9 U8.out.size (fun z hz => by
        have h1 := (P8.out.lt z hz).1
        have h2 := S2.out
        omega))
      have c0 := blk_cell B9.out 0 _ rfl
      clear g9 HSP E8 B8 U8 P8 HW8
      by_cases hq : q = 0
      · have HO := HOP.out hq
        subst hq
        rw [HO] at E9
        have HO2 : (openB B).2.2 = 0 := by rw [HO]
        rw [HO2]
        have HSE := hid (sameEnts_self l _ _ w9 (Rws.own E9.out) (HL.out.up U9.out))
        generalize (openB B).2.1.1 = fk at *
        clear HO HO2 E9 HOP
        go_wp2_with fail
        refine (HN.out _ _).mono ?_
        rintro e wa ⟨rfl, rfl⟩
        go_wp2_with fail
        refine HSE.out.mono ?_
        rintro e wb ⟨rfl, d, rfl⟩
        go_wp2
        go_ret
        exact ⟨rfl, up_trans U9.out (up_drewN _ _)⟩
      · have hq1 : (q == 0) = false := by simp [hq]
        have hq2 : (q != 0) = true := by simp [hq]
        clear HOP E9
        go_wp2
        go_ret
        exact ⟨rfl, U9.out⟩
end Go.Proofs.Ytekoniaobmapdab
