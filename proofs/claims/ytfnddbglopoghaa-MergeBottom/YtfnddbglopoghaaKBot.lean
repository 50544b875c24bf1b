/- MergeBottom's walk. -/
import Derived.Test.YtfnddbglopoghaaKTwi
namespace Go.Proofs.Ytfnddbglopoghaa
open Go.RowKit
set_option linter.unusedVariables false
set_option linter.unusedSimpArgs false
set_option maxRecDepth 100000

theorem kind_one {l : List En} {snaps : List Int} (hE : thinE l snaps = 0) {k : Nat} {x : En} (hx : (thinM l snaps true)[k]? = some x) (hy : ∀ y, (thinM l snaps true)[k + 1]? = some y → ¬ y.key.toList = x.key.toList) : x.kind = 1 := by
  have HO : ordL l = 0 := by
    unfold thinE at hE
    by_cases q : ordL l = 0
    · exact q
    · rw [if_pos q] at hE; exact absurd hE q
  have HM : thinM l snaps true = thinL l snaps true := by unfold thinM; rw [if_pos hE]
  rw [HM] at hx hy
  have hk := (List.getElem?_eq_some_iff.1 hx).1
  have e : thinL l snaps true = (thinL l snaps true).take k ++ x :: (thinL l snaps true).drop (k + 1) := by
    have h1 := (List.getElem?_eq_some_iff.1 hx).2
    conv => lhs; rw [← List.take_append_drop k (thinL l snaps true), List.drop_eq_getElem_cons hk, h1]
  have hn := thin_bottom ((ord_iff l).1 HO).2 snaps e (fun y q hq => by
    refine hy y ?_
    have h2 : ((thinL l snaps true).drop (k + 1))[0]? = some y := by rw [hq]; rfl
    rw [List.getElem?_drop] at h2
    exact h2)
  have hm := ((ord_iff l).1 HO).1 x ((thin_sub l snaps true).subset (List.mem_of_getElem? hx))
  unfold mayE at hm
  simp only [decide_eq_true_eq] at hm
  rcases hm.2.2.2.2.1 with h | h
  · exact h
  · exact absurd h hn
theorem first_in {l : List En} {snaps : List Int} (hE : thinE l snaps = 0) {k : Nat} {x : En} (hx : l[k]? = some x) (hy : ∀ j y, k = j + 1 → l[j]? = some y → ¬ y.key.toList = x.key.toList) : x ∈ thinM l snaps false := by
  have HO : ordL l = 0 := by
    unfold thinE at hE
    by_cases q : ordL l = 0
    · exact q
    · rw [if_pos q] at hE; exact absurd hE q
  have HM : thinM l snaps false = thinL l snaps false := by unfold thinM; rw [if_pos hE]
  rw [HM]
  have hk := (List.getElem?_eq_some_iff.1 hx).1
  have e : l = l.take k ++ x :: l.drop (k + 1) := by
    have h1 := (List.getElem?_eq_some_iff.1 hx).2
    conv => lhs; rw [← List.take_append_drop k l, List.drop_eq_getElem_cons hk, h1]
  refine thin_first ((ord_iff l).1 HO).2 snaps e (fun y hq => ?_)
  cases k with
  | zero => simp at hq
  | succ j =>
    refine hy j y rfl ?_
    rw [List.getLast?_take] at hq
    simp only [Nat.add_eq_zero_iff, Nat.one_ne_zero, and_false, if_false, Nat.add_one_sub_one] at hq
    rw [List.getElem?_eq_getElem (by omega)] at hq ⊢
    simpa using hq
theorem en_ext {y x : En} (h0 : y.key.toList = x.key.toList) (h1 : y.seq = x.seq) (h2 : y.kind = x.kind) (h3 : y.val.toList = x.val.toList) : y = x := by
  have e : ∀ a b : ByteArray, a.toList = b.toList → a = b := fun a b h => by
    rw [ByteArray.toList_eq, ByteArray.toList_eq] at h
    cases a; cases b
    simp at h
    subst h
    rfl
  obtain ⟨a, b, c, d⟩ := y
  obtain ⟨a', b', c', d'⟩ := x
  simp only at h0 h1 h2 h3
  rw [e _ _ h0, h1, h2, e _ _ h3]
theorem prev_ne {l : List En} {k j j' : Nat} {x y y' : En} (hj : k = j + 1) (hj' : k = j' + 1) (hy : l[j]? = some y) (hy' : l[j']? = some y') (hs : ¬ y.key.toList = x.key.toList) : ¬ y'.key.toList = x.key.toList := by
  obtain rfl : j' = j := by omega
  rw [hy] at hy'
  cases hy'
  exact hs
set_option maxHeartbeats 4000000 in
theorem bottom_walk (HAL : AliveC) (l : List En) (snaps : List Int) (a : Option Addr) (n c : Nat) (sa : Option Addr) (sn sc : Nat) (w : World) (hv : EntsR w (.slice a n c) l) (hi : IntsR w (.slice sa sn sc) snaps) (hl : l.length ≤ 2932031007402) :
    Calls Try.prog 7 #[.slice a n c, .slice sa sn sc] w fun e w' => e = .returned (.bool true) ∧ Below w.heap.size w w' := by
  have HV := hid hv
  have HI := hid hi
  have HA := hid HAL
  have HN := hid mnum_any
  clear hv hi HAL
  go_enter Try.func7, Try.ntmps7
  go_wp2_with fail
  refine (HA.out _).mono ?_
  rintro e w1 ⟨rfl, u1⟩
  have HT := hid (thin_any l snaps true a n c sa sn sc w1 (HV.out.up u1.out) (HI.out.up u1.out) hl)
  go_wp2_with fail
  refine HT.out.mono ?_
  rintro e w2 ⟨a2, n2, c2, rfl, E2, u2⟩
  have U2 : Hid (Below w.heap.size w w2) := up_trans u1.out u2.out
  clear HT u1 u2
  have HT := hid (thin_any l snaps false a n c sa sn sc w2 (HV.out.up U2.out) (HI.out.up U2.out) hl)
  go_wp2_with fail
  refine HT.out.mono ?_
  rintro e w3 ⟨a3, n3, c3, rfl, E3, u3⟩
  have U3 : Hid (Below w.heap.size w w3) := up_trans U2.out u3.out
  have F2 : Hid (EntsR w3 (.slice a2 n2 c2) (thinM l snaps true)) := E2.out.up u3.out
  have V3 : Hid (EntsR w3 (.slice a n c) l) := HV.out.up U3.out
  clear HT u3 E2 U2 HV HI
  by_cases h0 : thinP l snaps = 0
  · have hE : Hid (thinE l snaps = 0) := (thinP_iff l snaps).1 h0
    have HK1 : Hid (∀ k x, (thinM l snaps true)[k]? = some x → (∀ y, (thinM l snaps true)[k + 1]? = some y → ¬ y.key.toList = x.key.toList) → x.kind = 1) := fun k x h1 h2 => kind_one hE.out h1 h2
    have HK2 : Hid (∀ k x, l[k]? = some x → (∀ j y, k = j + 1 → l[j]? = some y → ¬ y.key.toList = x.key.toList) → x ∈ thinM l snaps false) := fun k x h1 h2 => first_in hE.out h1 h2
    have HLA : Hid ((thinM l snaps true).length ≤ l.length) := thinM_len l snaps true
    have HLB : Hid ((thinM l snaps false).length ≤ l.length) := thinM_len l snaps false
    generalize thinM l snaps true = A at *
    generalize thinM l snaps false = B at *
    have hn2 : n2 = A.length := by
      obtain ⟨a9, c9, e9, _⟩ := F2.out.len
      simp only [Value.slice.injEq] at e9
      exact e9.2.1
    have hn3 : n3 = B.length := by
      obtain ⟨a9, c9, e9, _⟩ := E3.out.len
      simp only [Value.slice.injEq] at e9
      exact e9.2.1
    have hn1 : n = l.length := by
      obtain ⟨a9, c9, e9, _⟩ := V3.out.len
      simp only [Value.slice.injEq] at e9
      exact e9.2.1
    have hA63 : A.length ≤ 2932031007402 := Nat.le_trans HLA.out hl
    have hB63 : B.length ≤ 2932031007402 := Nat.le_trans HLB.out hl
    rw [h0]
    subst hn1 hn2 hn3
    clear h0 hE HLA HLB
    go_wp2_with fail
    refine (HN.out 0 _).mono ?_
    rintro e wx ⟨rfl, rfl⟩
    go_wp2_with fail
    go_loopw [9] (fun i wr => ∃ (k d : Nat), k ≤ A.length ∧ i = .int .i64 k ∧ wr = wx.drewN d) (fun i _ => A.length - (intOf i).toNat)
    case atStart => exact ⟨0, 0, Nat.zero_le _, rfl, rfl⟩
    case round =>
      obtain ⟨k, d, hk, rfl, rfl⟩ := hrel
      by_cases hlt : k < A.length
      · have hlt' : (k : Int) < (A.length : Int) := by omega
        obtain ⟨b, off, cap, x, e, hx, x0, x1, x2, x3⟩ := F2.out.at k hlt
        simp only [Value.slice.injEq] at e
        obtain ⟨rfl, _, rfl⟩ := e
        by_cases hend : k + 1 = A.length
        · have hkd : x.kind = 1 := HK1.out k x hx (fun y hy => by rw [List.getElem?_eq_none (by omega)] at hy; cases hy)
          rw [hkd] at x2
          have e1 : ((k : Int) == (A.length : Int) - 1) = true := by simp; omega
          have e2 : IntKind.i64.wrap ((A.length : Int) - 1) = (A.length : Int) - 1 := by simp [IntKind.wrap, IntKind.bits, IntKind.signed]; omega
          clear hx hkd
          go_wp2_with fail
          go_quiet (fail)
          go_wp2_with fail
          exact ⟨⟨k + 1, d + nq, by omega, by go_num, rfl⟩, by simp [intOf]; omega⟩
        · obtain ⟨b', off', cap', y, e', hy, y0, y1, y2, y3⟩ := F2.out.at (k + 1) (by omega)
          simp only [Value.slice.injEq, Option.some.injEq, Addr.mk.injEq] at e'
          obtain ⟨⟨rfl, rfl, _⟩, _, rfl⟩ := e'
          have e1 : ((k : Int) == (A.length : Int) - 1) = false := by simp; omega
          have e3 : ((k : Int) = (A.length : Int) - 1) = False := by simp; omega
          have e2 : IntKind.i64.wrap ((A.length : Int) - 1) = (A.length : Int) - 1 := by simp [IntKind.wrap, IntKind.bits, IntKind.signed]; omega
          have hlt2 : (k : Int) + 1 < (A.length : Int) := by omega
          by_cases hs : y.key.toList = x.key.toList
          · have s1 : (y.key.toList == x.key.toList) = true := by simp [hs]
            have s2 : (y.key.toList != x.key.toList) = false := by simp [hs]
            clear hx hy
            go_wp2_with fail
            go_quiet (fail)
            go_wp2_with fail
            exact ⟨⟨k + 1, d + nq, by omega, by go_num, rfl⟩, by simp [intOf]; omega⟩
          · have hkd : x.kind = 1 := HK1.out k x hx (fun z hz => by rw [hy] at hz; cases hz; exact hs)
            have s1 : (y.key.toList == x.key.toList) = false := by simp [hs]
            have s2 : (y.key.toList != x.key.toList) = true := by simp [hs]
            rw [hkd] at x2
            clear hx hy hkd
            go_wp2_with fail
            go_quiet (fail)
            go_wp2_with fail
            exact ⟨⟨k + 1, d + nq, by omega, by go_num, rfl⟩, by simp [intOf]; omega⟩
      · have hlt' : ¬ (k : Int) < (A.length : Int) := by omega
        clear hk
        have HUY : Hid (Below w.heap.size w (wx.drewN d)) := up_trans U3.out (up_drewN _ _)
        have HLY : Hid (EntsR (wx.drewN d) (.slice a l.length c) l) := V3.out.up (up_drewN _ _)
        have HBY : Hid (EntsR (wx.drewN d) (.slice a3 B.length c3) B) := E3.out.up (up_drewN _ _)
        generalize wx.drewN d = wy at *
        go_wp2_with fail
        go_loopw [10] (fun i wr => ∃ k : Nat, k ≤ l.length ∧ i = .int .i64 k ∧ Hid (Below wy.heap.size wy wr)) (fun i _ => l.length - (intOf i).toNat)
        case atStart => exact ⟨0, Nat.zero_le _, rfl, Below.refl _ _⟩
        case round =>
          obtain ⟨k, hk, rfl, hU⟩ := hrel
          by_cases hlt : k < l.length
          · have hlt' : (k : Int) < (l.length : Int) := by omega
            have HF : Hid (∀ m, Below wy.heap.size wy (wr.drewN m) ∧ EntsR (wr.drewN m) (.slice a l.length c) l ∧ EntsR (wr.drewN m) (.slice a3 B.length c3) B) := fun m => ⟨up_trans hU.out (up_drewN _ _), HLY.out.up (up_trans hU.out (up_drewN _ _)), HBY.out.up (up_trans hU.out (up_drewN _ _))⟩
            have HLR : Hid (EntsR wr (.slice a l.length c) l) := HLY.out.up hU.out
            obtain ⟨b, off, cap, x, e, hx, x0, x1, x2, x3⟩ := HLR.out.at k hlt
            simp only [Value.slice.injEq] at e
            obtain ⟨rfl, _, rfl⟩ := e
            have HX : Hid (∀ m, (wr.drewN m).cell? ⟨b, off + k * 4, none⟩ = some (.string x.key) ∧ (wr.drewN m).cell? ⟨b, off + k * 4 + 1, none⟩ = some (.int .i64 x.seq) ∧ (wr.drewN m).cell? ⟨b, off + k * 4 + 2, none⟩ = some (.int .i64 x.kind) ∧ (wr.drewN m).cell? ⟨b, off + k * 4 + 3, none⟩ = some (.string x.val)) := fun m => ⟨x0, x1, x2, x3⟩
            rcases Nat.eq_zero_or_pos k with hk0 | hk0
            · have h0k : ¬ (0 : Int) < (k : Int) := by omega
              have h0k2 : ¬ 0 < k := by omega
              have YCL : True := trivial
              have HXB : Hid (x ∈ B) := HK2.out k x hx (fun j' y' hj' hy' => by omega)
              clear hx hk0
              go_wp2_with fail
              go_quiet (fail)
              obtain ⟨q0, q1, q2⟩ := HF.out nq
              replace q0 := hid q0
              replace q1 := hid q1
              replace q2 := hid q2
              obtain ⟨z0, z1, z2, z3⟩ := HX.out nq
              clear HF HX x0 x1 x2 x3 YCL
              generalize wr.drewN nq = wq at *
              go_wp2_with fail
              go_loopw [11, 12] (fun i j wr => ∃ (m d : Nat) (q : Bool), m ≤ B.length ∧ i = .bool q ∧ j = .int .i64 m ∧ wr = wq.drewN d ∧ Hid (q = true ↔ x ∈ B.take m)) (fun _ j _ => B.length - (intOf j).toNat)
              case atStart => exact ⟨0, 0, false, Nat.zero_le _, rfl, rfl, rfl, by unfold Hid; simp⟩
              case round =>
                obtain ⟨m, d, q, hm, rfl, rfl, rfl, hq⟩ := hrel
                by_cases hlm : m < B.length
                · have hlm' : (m : Int) < (B.length : Int) := by omega
                  obtain ⟨bb, offb, capb, y, e, hy, y0, y1, y2, y3⟩ := q2.out.at m hlm
                  simp only [Value.slice.injEq] at e
                  obtain ⟨rfl, _, rfl⟩ := e
                  have HT1 : Hid (B.take (m + 1) = B.take m ++ [y]) := by unfold Hid; rw [List.take_add_one, hy]; rfl
                  clear hy
                  cases q with
                  | true =>
                    have HQ1 : Hid (x ∈ B.take (m + 1)) := by unfold Hid; rw [HT1.out]; have := hq.out; simp at this ⊢; exact .inl this
                    clear HT1 hq
                    go_wp2_with fail
                    go_quiet (fail)
                    go_wp2_with fail
                    exact ⟨⟨m + 1, d + nq, true, by omega, rfl, by go_num, rfl, iff_of_true rfl HQ1.out⟩, by simp [intOf]; omega⟩
                  | false =>
                    have HQ1 : Hid (∀ r : Bool, (r = true ↔ y = x) → (r = true ↔ x ∈ B.take (m + 1))) := fun r hr => by rw [HT1.out, hr]; have := hq.out; simp at this ⊢; exact ⟨fun h => .inr h.symm, fun h => h.elim (fun q => absurd q this) Eq.symm⟩
                    clear HT1 hq
                    by_cases c0 : y.key.toList = x.key.toList
                    · skip
                      by_cases c1 : y.seq = x.seq
                      · skip
                        by_cases c2 : y.kind = x.kind
                        · skip
                          by_cases c3 : y.val.toList = x.val.toList
                          · skip
                            have HR : Hid (x ∈ B.take (m + 1)) := (HQ1.out true (iff_of_true rfl (en_ext c0 c1 c2 c3))).1 rfl
                            have s0x : (y.key.toList == x.key.toList) = true := by simp [c0]
                            have s1x : (y.seq == x.seq) = true := by simp [c1]
                            have s2x : (y.kind == x.kind) = true := by simp [c2]
                            have s3x : (y.val.toList == x.val.toList) = true := by simp [c3]
                            clear HQ1 c0 c1 c2 c3
                            go_wp2_with fail
                            go_quiet (fail)
                            go_wp2_with fail
                            exact ⟨⟨m + 1, d + nq, true, by omega, rfl, by go_num, rfl, iff_of_true rfl HR.out⟩, by simp [intOf]; omega⟩
                          · have HR : Hid (¬ x ∈ B.take (m + 1)) := fun h => by have := (HQ1.out false (iff_of_false (by simp) (fun e => c3 (by rw [e])))).2 h; cases this
                            have s0x : (y.key.toList == x.key.toList) = true := by simp [c0]
                            have s1x : (y.seq == x.seq) = true := by simp [c1]
                            have s2x : (y.kind == x.kind) = true := by simp [c2]
                            have s3x : (y.val.toList == x.val.toList) = false := by simp [c3]
                            clear HQ1 c0 c1 c2 c3
                            go_wp2_with fail
                            go_quiet (fail)
                            go_wp2_with fail
                            exact ⟨⟨m + 1, d + nq, false, by omega, rfl, by go_num, rfl, iff_of_false (by simp) HR.out⟩, by simp [intOf]; omega⟩
                        · have HR : Hid (¬ x ∈ B.take (m + 1)) := fun h => by have := (HQ1.out false (iff_of_false (by simp) (fun e => c2 (by rw [e])))).2 h; cases this
                          have s0x : (y.key.toList == x.key.toList) = true := by simp [c0]
                          have s1x : (y.seq == x.seq) = true := by simp [c1]
                          have s2x : (y.kind == x.kind) = false := by simp [c2]
                          clear HQ1 c0 c1 c2
                          go_wp2_with fail
                          go_quiet (fail)
                          go_wp2_with fail
                          exact ⟨⟨m + 1, d + nq, false, by omega, rfl, by go_num, rfl, iff_of_false (by simp) HR.out⟩, by simp [intOf]; omega⟩
                      · have HR : Hid (¬ x ∈ B.take (m + 1)) := fun h => by have := (HQ1.out false (iff_of_false (by simp) (fun e => c1 (by rw [e])))).2 h; cases this
                        have s0x : (y.key.toList == x.key.toList) = true := by simp [c0]
                        have s1x : (y.seq == x.seq) = false := by simp [c1]
                        clear HQ1 c0 c1
                        go_wp2_with fail
                        go_quiet (fail)
                        go_wp2_with fail
                        exact ⟨⟨m + 1, d + nq, false, by omega, rfl, by go_num, rfl, iff_of_false (by simp) HR.out⟩, by simp [intOf]; omega⟩
                    · have HR : Hid (¬ x ∈ B.take (m + 1)) := fun h => by have := (HQ1.out false (iff_of_false (by simp) (fun e => c0 (by rw [e])))).2 h; cases this
                      have s0x : (y.key.toList == x.key.toList) = false := by simp [c0]
                      clear HQ1 c0
                      go_wp2_with fail
                      go_quiet (fail)
                      go_wp2_with fail
                      exact ⟨⟨m + 1, d + nq, false, by omega, rfl, by go_num, rfl, iff_of_false (by simp) HR.out⟩, by simp [intOf]; omega⟩
                · have hlm' : ¬ (m : Int) < (B.length : Int) := by omega
                  have hqt : q = true := hq.out.2 (by rw [List.take_of_length_le (by omega)]; exact HXB.out)
                  subst hqt
                  have UF : Hid (Below wy.heap.size wy (wq.drewN d)) := up_trans q0.out (up_drewN _ _)
                  go_wp2_with fail
                  exact ⟨⟨k + 1, by omega, by go_num, UF⟩, by simp [intOf]; omega⟩
            · obtain ⟨j, hj⟩ : ∃ j, k = j + 1 := ⟨k - 1, by omega⟩
              obtain ⟨b', off', cap', y, e', hy, y0, y1, y2, y3⟩ := HLR.out.at j (by omega)
              simp only [Value.slice.injEq, Option.some.injEq, Addr.mk.injEq] at e'
              obtain ⟨⟨rfl, rfl, _⟩, _, rfl⟩ := e'
              have h0k : (0 : Int) < (k : Int) := by omega
              have hkj : (k : Int) - 1 = (j : Int) := by omega
              have hwj : IntKind.i64.wrap (j : Int) = (j : Int) := by simp [IntKind.wrap, IntKind.bits, IntKind.signed]; omega
              have hjl : (j : Int) < (l.length : Int) := by omega
              have YCL : True := trivial
              by_cases hs : y.key.toList = x.key.toList
              · have s1 : (y.key.toList == x.key.toList) = true := by simp [hs]
                clear hx hy hj
                go_wp2_with fail
                go_quiet (fail)
                have UF : Hid (Below wy.heap.size wy (wr.drewN nq)) := (HF.out nq).1
                go_wp2_with fail
                exact ⟨⟨k + 1, by omega, by go_num, UF⟩, by simp [intOf]; omega⟩
              · have s1 : (y.key.toList == x.key.toList) = false := by simp [hs]
                have HXB : Hid (x ∈ B) := HK2.out k x hx (fun j' y' hj' hy' => prev_ne hj hj' hy hy' hs)
                clear hx hy hj
                go_wp2_with fail
                go_quiet (fail)
                obtain ⟨q0, q1, q2⟩ := HF.out nq
                replace q0 := hid q0
                replace q1 := hid q1
                replace q2 := hid q2
                obtain ⟨z0, z1, z2, z3⟩ := HX.out nq
                clear HF HX x0 x1 x2 x3 YCL y0 y1 y2 y3 hkj hwj hjl hs s1
                generalize wr.drewN nq = wq at *
                go_wp2_with fail
                go_loopw [11, 12] (fun i j wr => ∃ (m d : Nat) (q : Bool), m ≤ B.length ∧ i = .bool q ∧ j = .int .i64 m ∧ wr = wq.drewN d ∧ Hid (q = true ↔ x ∈ B.take m)) (fun _ j _ => B.length - (intOf j).toNat)
                case atStart => exact ⟨0, 0, false, Nat.zero_le _, rfl, rfl, rfl, by unfold Hid; simp⟩
                case round =>
                  obtain ⟨m, d, q, hm, rfl, rfl, rfl, hq⟩ := hrel
                  by_cases hlm : m < B.length
                  · have hlm' : (m : Int) < (B.length : Int) := by omega
                    obtain ⟨bb, offb, capb, y, e, hy, y0, y1, y2, y3⟩ := q2.out.at m hlm
                    simp only [Value.slice.injEq] at e
                    obtain ⟨rfl, _, rfl⟩ := e
                    have HT1 : Hid (B.take (m + 1) = B.take m ++ [y]) := by unfold Hid; rw [List.take_add_one, hy]; rfl
                    clear hy
                    cases q with
                    | true =>
                      have HQ1 : Hid (x ∈ B.take (m + 1)) := by unfold Hid; rw [HT1.out]; have := hq.out; simp at this ⊢; exact .inl this
                      clear HT1 hq
                      go_wp2_with fail
                      go_quiet (fail)
                      go_wp2_with fail
                      exact ⟨⟨m + 1, d + nq, true, by omega, rfl, by go_num, rfl, iff_of_true rfl HQ1.out⟩, by simp [intOf]; omega⟩
                    | false =>
                      have HQ1 : Hid (∀ r : Bool, (r = true ↔ y = x) → (r = true ↔ x ∈ B.take (m + 1))) := fun r hr => by rw [HT1.out, hr]; have := hq.out; simp at this ⊢; exact ⟨fun h => .inr h.symm, fun h => h.elim (fun q => absurd q this) Eq.symm⟩
                      clear HT1 hq
                      by_cases c0 : y.key.toList = x.key.toList
                      · skip
                        by_cases c1 : y.seq = x.seq
                        · skip
                          by_cases c2 : y.kind = x.kind
                          · skip
                            by_cases c3 : y.val.toList = x.val.toList
                            · skip
                              have HR : Hid (x ∈ B.take (m + 1)) := (HQ1.out true (iff_of_true rfl (en_ext c0 c1 c2 c3))).1 rfl
                              have s0x : (y.key.toList == x.key.toList) = true := by simp [c0]
                              have s1x : (y.seq == x.seq) = true := by simp [c1]
                              have s2x : (y.kind == x.kind) = true := by simp [c2]
                              have s3x : (y.val.toList == x.val.toList) = true := by simp [c3]
                              clear HQ1 c0 c1 c2 c3
                              go_wp2_with fail
                              go_quiet (fail)
                              go_wp2_with fail
                              exact ⟨⟨m + 1, d + nq, true, by omega, rfl, by go_num, rfl, iff_of_true rfl HR.out⟩, by simp [intOf]; omega⟩
                            · have HR : Hid (¬ x ∈ B.take (m + 1)) := fun h => by have := (HQ1.out false (iff_of_false (by simp) (fun e => c3 (by rw [e])))).2 h; cases this
                              have s0x : (y.key.toList == x.key.toList) = true := by simp [c0]
                              have s1x : (y.seq == x.seq) = true := by simp [c1]
                              have s2x : (y.kind == x.kind) = true := by simp [c2]
                              have s3x : (y.val.toList == x.val.toList) = false := by simp [c3]
                              clear HQ1 c0 c1 c2 c3
                              go_wp2_with fail
                              go_quiet (fail)
                              go_wp2_with fail
                              exact ⟨⟨m + 1, d + nq, false, by omega, rfl, by go_num, rfl, iff_of_false (by simp) HR.out⟩, by simp [intOf]; omega⟩
                          · have HR : Hid (¬ x ∈ B.take (m + 1)) := fun h => by have := (HQ1.out false (iff_of_false (by simp) (fun e => c2 (by rw [e])))).2 h; cases this
                            have s0x : (y.key.toList == x.key.toList) = true := by simp [c0]
                            have s1x : (y.seq == x.seq) = true := by simp [c1]
                            have s2x : (y.kind == x.kind) = false := by simp [c2]
                            clear HQ1 c0 c1 c2
                            go_wp2_with fail
                            go_quiet (fail)
                            go_wp2_with fail
                            exact ⟨⟨m + 1, d + nq, false, by omega, rfl, by go_num, rfl, iff_of_false (by simp) HR.out⟩, by simp [intOf]; omega⟩
                        · have HR : Hid (¬ x ∈ B.take (m + 1)) := fun h => by have := (HQ1.out false (iff_of_false (by simp) (fun e => c1 (by rw [e])))).2 h; cases this
                          have s0x : (y.key.toList == x.key.toList) = true := by simp [c0]
                          have s1x : (y.seq == x.seq) = false := by simp [c1]
                          clear HQ1 c0 c1
                          go_wp2_with fail
                          go_quiet (fail)
                          go_wp2_with fail
                          exact ⟨⟨m + 1, d + nq, false, by omega, rfl, by go_num, rfl, iff_of_false (by simp) HR.out⟩, by simp [intOf]; omega⟩
                      · have HR : Hid (¬ x ∈ B.take (m + 1)) := fun h => by have := (HQ1.out false (iff_of_false (by simp) (fun e => c0 (by rw [e])))).2 h; cases this
                        have s0x : (y.key.toList == x.key.toList) = false := by simp [c0]
                        clear HQ1 c0
                        go_wp2_with fail
                        go_quiet (fail)
                        go_wp2_with fail
                        exact ⟨⟨m + 1, d + nq, false, by omega, rfl, by go_num, rfl, iff_of_false (by simp) HR.out⟩, by simp [intOf]; omega⟩
                  · have hlm' : ¬ (m : Int) < (B.length : Int) := by omega
                    have hqt : q = true := hq.out.2 (by rw [List.take_of_length_le (by omega)]; exact HXB.out)
                    subst hqt
                    have UF : Hid (Below wy.heap.size wy (wq.drewN d)) := up_trans q0.out (up_drewN _ _)
                    go_wp2_with fail
                    exact ⟨⟨k + 1, by omega, by go_num, UF⟩, by simp [intOf]; omega⟩
          · have hlt' : ¬ (k : Int) < (l.length : Int) := by omega
            go_wp2_with fail
            refine (HN.out 0 _).mono ?_
            rintro e wz ⟨rfl, rfl⟩
            go_wp2_with fail
            go_ret
            exact ⟨rfl, up_trans HUY.out hU.out⟩
  · have HTM : Hid (∀ b, thinM l snaps b = []) := fun b => by unfold thinM; rw [if_neg (fun q => h0 ((thinP_iff l snaps).2 q))]
    rw [HTM.out] at F2 E3
    obtain ⟨a9, c9, e9, _⟩ := F2.out.len
    simp only [Value.slice.injEq] at e9
    obtain ⟨rfl, hn2, rfl⟩ := e9
    obtain ⟨a8, c8, e8, _⟩ := E3.out.len
    simp only [Value.slice.injEq] at e8
    obtain ⟨rfl, hn3, rfl⟩ := e8
    simp only [List.length_nil] at hn2 hn3
    subst hn2 hn3
    have hb1 : (thinP l snaps != 0) = true := by simp [h0]
    have hb2 : (thinP l snaps = 0) = False := by simp [h0]
    clear h0
    go_wp2_with fail
    refine (HN.out _ _).mono ?_
    rintro e wx ⟨rfl, rfl⟩
    go_wp2_with fail
    refine (HN.out _ _).mono ?_
    rintro e wx ⟨rfl, rfl⟩
    go_wp2_with fail
    refine (HN.out _ _).mono ?_
    rintro e wx ⟨rfl, rfl⟩
    go_wp2_with fail
    go_ret
    exact ⟨rfl, U3.out⟩
end Go.Proofs.Ytfnddbglopoghaa
