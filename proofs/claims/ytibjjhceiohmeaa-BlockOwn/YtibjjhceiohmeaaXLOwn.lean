/- BlockOwn walked upon what is wanted of the program. -/
import Derived.Test.YtibjjhceiohmeaaXLaw
namespace Go.Proofs.Ytibjjhceiohmeaa
open Go.RowKit SumPlain
set_option linter.unusedVariables false
set_option linter.unusedSimpArgs false

theorem set_get {A : Type} (l : List A) (i : Nat) (x d : A) (h : i < l.length) : (l.set i x).getD i d = x := by simp [List.getD, h]
theorem OwnR.set4 {w : World} {base : Nat} {e : TypeId} {g n cap : Nat} {css : List (List Value)} (h : OwnR w base e 4 (.slice (some ⟨g, 0, none⟩) n cap) css) (hn : css.length = n) (i : Nat) (hi : i < n) (a b c d : Value) :
    OwnR ((((w.setCell ⟨g, i * 4, none⟩ a).setCell ⟨g, i * 4 + 1, none⟩ b).setCell ⟨g, i * 4 + 2, none⟩ c).setCell ⟨g, i * 4 + 3, none⟩ d) base e 4 (.slice (some ⟨g, 0, none⟩) n cap) (css.set i [a, b, c, d]) ∧
      w.grownBy ((((w.setCell ⟨g, i * 4, none⟩ a).setCell ⟨g, i * 4 + 1, none⟩ b).setCell ⟨g, i * 4 + 2, none⟩ c).setCell ⟨g, i * 4 + 3, none⟩ d) (some g) := by
  obtain ⟨x0, x1, x2, x3, hx⟩ : ∃ x0 x1 x2 x3, css.getD i [] = [x0, x1, x2, x3] := by
    have hm : css.getD i [] ∈ css := by
      have : i < css.length := by omega
      simp [List.getD, this]
    have hl := h.1 _ hm
    match hq : css.getD i [], hl with
    | [x0, x1, x2, x3], _ => exact ⟨x0, x1, x2, x3, rfl⟩
  have s0 := h.set hn i hi 0 (by decide) a
  rw [hx, Nat.add_zero] at s0
  have s1 := s0.1.set (by rw [List.length_set]; exact hn) i hi 1 (by decide) b
  rw [set_get _ _ _ _ (by omega), List.set_set] at s1
  have s2 := s1.1.set (by rw [List.length_set]; exact hn) i hi 2 (by decide) c
  rw [set_get _ _ _ _ (by omega), List.set_set] at s2
  have s3 := s2.1.set (by rw [List.length_set]; exact hn) i hi 3 (by decide) d
  rw [set_get _ _ _ _ (by omega), List.set_set] at s3
  exact ⟨s3.1, grown_trans (grown_trans (grown_trans s0.2.1 s1.2.1) s2.2.1) s3.2.1⟩

set_option maxHeartbeats 4000000 in
theorem own_walk (P : Pg) (B : List Int) (vb : Value) (w : World) (hb : Octs w vb B) (hbl : B.length ≤ 140737488351232) :
    Calls Try.prog 8 #[vb] w fun e w' => e = .returned (.bool true) ∧ Below w.heap.size w w' := by
  have HB : Hid (Octs w vb B) := hb
  have HP : Hid Pg := P
  have HBL : Hid (B.length ≤ 140737488351232) := hbl
  have HN : Hid (∀ (x : Int) (W : World), Calls Try.prog 18 #[.int .i64 x] W fun e w' => e = .returned (.int .i64 x) ∧ w' = W) := num_any
  clear hb hbl P
  have HD : Hid (∀ (v : Value) (W : World), Octs W v B → Calls Try.prog 13 #[v] W fun e w' => ∃ a n c, e = .returned (.tuple #[.slice a n c, .int .i64 (decB B).2]) ∧ Hid (n = (decB B).1.length) ∧ Hid (OwnR w' W.heap.size 36 4 (.slice a n c) ((decB B).1.map enRow)) ∧ Hid (Below W.heap.size W w')) := fun v W h => HP.out.dec B v W h HBL.out
  have HR : Hid (∀ (v : Value) (W : World), Octs W v B → Calls Try.prog 14 #[v] W fun e w' => ∃ a n c, e = .returned (.tuple #[.slice a n c, .int .i64 (decB B).2]) ∧ Hid (n = (decB B).1.length) ∧ Hid (OwnR w' W.heap.size 36 4 (.slice a n c) ((decB B).1.map enRow)) ∧ Hid (Below W.heap.size W w')) := by
    intro v W h
    refine (refDecB_any B v W h HBL.out).mono ?_
    rintro e w' ⟨a, n, c, rfl, h5, h6⟩
    exact ⟨a, n, c, rfl, h5.out.1, h5.out.2, h6⟩
  generalize (decB B).2 = q at *
  generalize (decB B).1 = L at *
  go_enter Try.func8, Try.ntmps8
  go_wp2_with fail
  refine (HP.out.alive _).mono ?_
  rintro e w1 ⟨rfl, b1⟩
  have U1 : Hid (Below w.heap.size w w1) := b1
  clear b1
  have HC := copy_any B vb w1 (HB.out.up U1.out) (by have := HBL.out; omega)
  go_wp2_with fail
  refine HC.mono ?_
  rintro e w2 ⟨v2, rfl, O2', b2⟩
  obtain ⟨oa, on, oc, rfl, hon⟩ := own_shape O2'
  have O2 : Hid (OwnB w2 w1.heap.size (.slice oa on oc) B) := O2'
  have U2 : Hid (Below w.heap.size w w2) := up_trans U1.out b2
  clear HC O2' b2
  go_wp2_with fail
  refine (HD.out _ _ (Octs.own O2.out HB.out.1)).mono ?_
  rintro e w3 ⟨la, ln, lc, rfl, hln, L3, b3⟩
  have U3 : Hid (Below w.heap.size w w3) := up_trans U2.out b3.out
  have O3 : Hid (OwnB w3 w1.heap.size (.slice oa on oc) B) := own_up O2.out b3.out
  have S2 : Hid (w.heap.size ≤ w2.heap.size) := U2.out.size
  have S1 : Hid (w.heap.size ≤ w1.heap.size) := U1.out.size
  clear b3 O2 U2 U1
  go_wp2_with fail
  refine (HR.out _ _ (HB.out.up U3.out)).mono ?_
  rintro e w4 ⟨ma, mn, mc, rfl, hmn, M4, b4⟩
  have U4 : Hid (Below w.heap.size w w4) := up_trans U3.out b4.out
  have O4 : Hid (OwnB w4 w1.heap.size (.slice oa on oc) B) := own_up O3.out b4.out
  have L4 : Hid (OwnR w4 w2.heap.size 36 4 (.slice la ln lc) (L.map enRow)) := L3.out.up b4.out
  clear b4 O3 L3 U3
  have HSP := spoil_any B _ w4 _ O4.out HB.out.1 (by have := HBL.out; omega)
  go_wp2_with fail
  refine HSP.mono ?_
  rintro e w5 ⟨⟨u5, rfl⟩, g5⟩
  have L5 : Hid (OwnR w5 w2.heap.size 36 4 (.slice la ln lc) (L.map enRow)) := L4.out.far g5 (own_own_ne L4.out.2 O4.out (by decide))
  have M5 : Hid (OwnR w5 w3.heap.size 36 4 (.slice ma mn mc) (L.map enRow)) := M4.out.far g5 (own_own_ne M4.out.2 O4.out (by decide))
  have U5 : Hid (Below w.heap.size w w5) := U4.out.grown g5 U4.out.size (fun k hk => by have := (O4.out.lt k hk).1; have := S1.out; omega)
  clear HSP g5 L4 M4 U4 O4
  go_wp2_with fail
  refine (HD.out _ _ (HB.out.up U5.out)).mono ?_
  rintro e w6 ⟨ka, kn, kc, rfl, hkn, K6, b6⟩
  have L6 : Hid (OwnR w6 w2.heap.size 36 4 (.slice la ln lc) (L.map enRow)) := L5.out.up b6.out
  have M6 : Hid (OwnR w6 w3.heap.size 36 4 (.slice ma mn mc) (L.map enRow)) := M5.out.up b6.out
  have U6 : Hid (Below w.heap.size w w6) := up_trans U5.out b6.out
  have HLT : Hid (∀ g, (Value.slice ka kn kc).ownBlock = some g → (Value.slice la ln lc).ownBlock ≠ some g ∧ (Value.slice ma mn mc).ownBlock ≠ some g ∧ w.heap.size ≤ g) := by
    intro g hg
    have h1 := (K6.out.2.lt g hg).1
    refine ⟨fun e => ?_, fun e => ?_, Nat.le_trans U5.out.size h1⟩
    · have := (L5.out.2.lt g e).2; omega
    · have := (M5.out.2.lt g e).2; omega
  clear L5 M5 U5 b6
  go_wp2_with fail
  go_loopw [10] (fun i wr => ∃ (k : Nat) (L' : List En), k ≤ kn ∧ i = .int .i64 (k : Int) ∧ Hid (L'.length = kn) ∧ Hid (OwnR wr w5.heap.size 36 4 (.slice ka kn kc) (L'.map enRow)) ∧ Hid (OwnR wr w2.heap.size 36 4 (.slice la ln lc) (L.map enRow)) ∧ Hid (OwnR wr w3.heap.size 36 4 (.slice ma mn mc) (L.map enRow)) ∧ Hid (Below w.heap.size w wr)) (fun i _ => kn - (intOf i).toNat)
  case atStart => exact ⟨0, L, by omega, rfl, hkn.out.symm, K6, L6, M6, U6⟩
  case round =>
    clear K6 L6 M6 U6
    obtain ⟨k, L', hk, rfl, hL', KR, LR, MR, UR⟩ := hrel
    have hk63 : kn ≤ 9223372036854775807 := by
      obtain ⟨_, _, e, h4, h5⟩ := (Rws.own KR.out).len
      simp only [Value.slice.injEq, List.length_map] at e
      unfold maxLen at h5
      simp only [List.length_map] at h4
      omega
    by_cases hlt : k < kn
    · have hlt' : (k : Int) < (kn : Int) := by omega
      obtain ⟨g, rfl⟩ : ∃ g, ka = some ⟨g, 0, none⟩ := by
        obtain ⟨_, _, h⟩ := KR.out
        rcases h with ⟨e, h0⟩ | ⟨g, c2, cur, e, _⟩
        · simp only [List.length_map] at h0
          have := hL'.out
          omega
        · simp at e
          exact ⟨g, e.1⟩
      obtain ⟨b', off', cap', x, e', hx, x0, x1, x2, x3⟩ := EntsR.at (show EntsR wr _ L' from Rws.own KR.out) k (by rw [hL'.out]; exact hlt)
      simp only [Value.slice.injEq, Option.some.injEq, Addr.mk.injEq] at e'
      obtain ⟨⟨rfl, rfl, _⟩, _, rfl⟩ := e'
      rw [Nat.zero_add] at x0 x1 x2 x3
      have f0 := (KR.out.set (by rw [List.length_map]; exact hL'.out) k hlt 0 (by decide) (.int .u8 0)).2.2
      have f1 := (KR.out.set (by rw [List.length_map]; exact hL'.out) k hlt 1 (by decide) (.int .u8 0)).2.2
      have f2 := (KR.out.set (by rw [List.length_map]; exact hL'.out) k hlt 2 (by decide) (.int .u8 0)).2.2
      have f3 := (KR.out.set (by rw [List.length_map]; exact hL'.out) k hlt 3 (by decide) (.int .u8 0)).2.2
      rw [Nat.add_zero] at f0
      have S4 := KR.out.set4 (by rw [List.length_map]; exact hL'.out) k hlt (.string ⟨#[]⟩) (.int .i64 0) (.int .i64 0) (.string ⟨#[]⟩)
      have HS4 : Hid (OwnR ((((wr.setCell ⟨g, k * 4, none⟩ (.string ⟨#[]⟩)).setCell ⟨g, k * 4 + 1, none⟩ (.int .i64 0)).setCell ⟨g, k * 4 + 2, none⟩ (.int .i64 0)).setCell ⟨g, k * 4 + 3, none⟩ (.string ⟨#[]⟩)) w5.heap.size 36 4 (.slice (some ⟨g, 0, none⟩) kn kc) ((L'.set k default).map enRow)) := by
        have := S4.1
        unfold Hid
        rw [List.map_set]
        exact this
      have HG4 := S4.2
      have HL4 : Hid (OwnR ((((wr.setCell ⟨g, k * 4, none⟩ (.string ⟨#[]⟩)).setCell ⟨g, k * 4 + 1, none⟩ (.int .i64 0)).setCell ⟨g, k * 4 + 2, none⟩ (.int .i64 0)).setCell ⟨g, k * 4 + 3, none⟩ (.string ⟨#[]⟩)) w2.heap.size 36 4 (.slice la ln lc) (L.map enRow)) := LR.out.far HG4 (.inr (HLT.out g (by simp [Value.ownBlock])).1)
      have HM4 : Hid (OwnR ((((wr.setCell ⟨g, k * 4, none⟩ (.string ⟨#[]⟩)).setCell ⟨g, k * 4 + 1, none⟩ (.int .i64 0)).setCell ⟨g, k * 4 + 2, none⟩ (.int .i64 0)).setCell ⟨g, k * 4 + 3, none⟩ (.string ⟨#[]⟩)) w3.heap.size 36 4 (.slice ma mn mc) (L.map enRow)) := MR.out.far HG4 (.inr (HLT.out g (by simp [Value.ownBlock])).2.1)
      have HU4 : Hid (Below w.heap.size w ((((wr.setCell ⟨g, k * 4, none⟩ (.string ⟨#[]⟩)).setCell ⟨g, k * 4 + 1, none⟩ (.int .i64 0)).setCell ⟨g, k * 4 + 2, none⟩ (.int .i64 0)).setCell ⟨g, k * 4 + 3, none⟩ (.string ⟨#[]⟩))) := UR.out.grown HG4 UR.out.size (fun q hq => by injection hq with hq; rw [← hq]; exact (HLT.out g (by simp [Value.ownBlock])).2.2)
      clear S4 HG4 KR LR MR UR hx
      go_wp2_with fail
      exact ⟨⟨k + 1, L'.set k default, by omega, by go_num, by unfold Hid; rw [List.length_set]; exact hL'.out, HS4, HL4, HM4, HU4⟩, by simp [intOf]; omega⟩
    · have hlt' : ¬ (k : Int) < (kn : Int) := by omega
      have HSM := sameEnts_self L _ _ _ (Rws.own LR.out) (Rws.own MR.out)
      go_wp2_with fail
      refine (HN.out _ _).mono ?_
      rintro e w7 ⟨rfl, rfl⟩
      go_wp2_with fail
      refine (HN.out _ _).mono ?_
      rintro e w8 ⟨rfl, rfl⟩
      go_wp2_with fail
      refine HSM.mono ?_
      rintro e w9 ⟨rfl, d, rfl⟩
      clear HSM
      go_wp2
      go_ret
      exact ⟨rfl, up_trans UR.out (up_drewN _ d)⟩
end Go.Proofs.Ytibjjhceiohmeaa
