/- The program's Print. -/
import Derived.Test.YtbnghhmmanleaaaDoorDList
namespace Go.Proofs.YtbnghhmmanleaaaDoor
open Go.RowKit
set_option linter.unusedVariables false
set_option linter.unusedSimpArgs false

/-- A rule's words. -/
def wordsP (r : Ru) : List (List Int) := [listL r.mi (allN 0 59) true, listL r.ho (allN 0 23) true, listL r.da (allN 1 31) r.ad, listL r.mo (allN 1 12) true, listL r.we (allN 0 6) r.aw]
theorem wordsP_join (r : Ru) : joinI (wordsP r) 32 = printL r := rfl
theorem check_days {r : Ru} (hc : checkP r = 0) : (r.ad = true → r.da = allN 1 31) ∧ (r.aw = true → r.we = allN 0 6) := by
  unfold checkP at hc
  have h : (okAll r && (!(r.ad && r.da != allN 1 31) && !(r.aw && r.we != allN 0 6))) = true := Classical.byContradiction fun q => by rw [if_neg q] at hc; cases hc
  rw [Bool.and_eq_true, Bool.and_eq_true] at h
  obtain ⟨-, h1, h2⟩ := h
  refine ⟨fun q => ?_, fun q => ?_⟩
  · rw [q] at h1
    simpa using h1
  · rw [q] at h2
    simpa using h2
theorem listL_star {s w : Nat} (h : (s == w) = true) : listL s w true = [42] := by
  unfold listL
  rw [h]
  rfl
theorem listL_list {s w : Nat} {b : Bool} (h : (b && s == w) = false) : listL s w b = listF s 64 := by
  unfold listL
  rw [h]
  rfl
set_option maxHeartbeats 2000000 in
set_option maxRecDepth 20000 in
theorem print_any (r : Ru) (hr : r.ok) (w : World) (he : Env w) :
    Calls Tryd.prog 10 #[ruV r] w fun e w' => e = .returned (.tuple #[.string (strOfNums (printP r).1), .int .i64 (printP r).2]) ∧ Below w.heap.size w w' := by
  have HC : Hid (∀ w', Below w.heap.size w w' → Calls Tryd.prog 13 #[ruV r] w' fun e w'' => e = .returned (.int .i64 (checkP r)) ∧ Below w'.heap.size w' w'') := fun w' hb => check_any r hr w' (he.up hb)
  have HA : Hid (∀ w', Calls Tryd.prog 24 #[ruV r] w' fun e w'' => e = .returned (.agg #[.bool false, .bool false, .bool r.ad, .bool false, .bool r.aw]) ∧ Below w'.heap.size w' w'') := fun w' => anyOf_any r w'
  have HS : Hid (∀ w', Calls Tryd.prog 25 #[ruV r] w' fun e w'' => e = .returned (.agg #[.int .u64 (r.mi : Int), .int .u64 (r.ho : Int), .int .u64 (r.da : Int), .int .u64 (r.mo : Int), .int .u64 (r.we : Int)]) ∧ Below w'.heap.size w' w'') := fun w' => setsOf_any r w'
  rw [ruV_form] at HC HA HS
  rw [ruV_form]
  have b0 := hid (blk_new w (.cells #[.int .u64 (r.mi : Int), .int .u64 (r.ho : Int), .int .u64 (r.da : Int), .int .u64 (r.mo : Int), .int .u64 (r.we : Int), .bool r.ad, .bool r.aw] 25))
  have U0 := hid (up_alloc w (.cells #[.int .u64 (r.mi : Int), .int .u64 (r.ho : Int), .int .u64 (r.da : Int), .int .u64 (r.mo : Int), .int .u64 (r.we : Int), .bool r.ad, .bool r.aw] 25))
  rcases checkP_two r with hc | hc
  case inr =>
    have E : Hid (printP r = ([], 9)) := if_pos (by rw [hc]; simp)
    rw [hc] at HC
    clear hc hr he HA HS
    go_enter Tryd.func10, Tryd.ntmps10
    go_wp2_with fail
    refine (HC.out _ U0.out).mono ?_
    rintro e w1 ⟨rfl, hb1⟩
    go_wp2_with fail
    go_ret2
    exact ⟨by rw [E.out]; rfl, up_trans U0.out hb1⟩
  case inl =>
    have E : Hid (printP r = (printL r, 0)) := if_neg (by rw [hc]; simp)
    have E2 : Hid (joinI (wordsP r) 32 = printL r) := rfl
    obtain ⟨c2, c4⟩ := check_days hc
    rw [hc] at HC
    have A0 : Hid (∀ w', Below w.heap.size w w' → Calls Tryd.prog 26 #[.int .i64 0] w' fun e w'' => e = .returned (.int .u64 ((allN 0 59) : Int)) ∧ Below w'.heap.size w' w'') := fun w' hb => whole_any 0 (by omega) w' (he.up hb)
    have L0 : Hid (∀ w', Below w.heap.size w w' → Calls Tryd.prog 27 #[.int .u64 (r.mi : Int)] w' fun e w'' => e = .returned (.string (strOfNums (listF r.mi 64))) ∧ Below w'.heap.size w' w'') := fun w' hb => list_any r.mi (hr _ (by simp [Ru.sets])) w' (he.up hb)
    have uu0 := beq_nat r.mi (allN 0 59)
    have A1 : Hid (∀ w', Below w.heap.size w w' → Calls Tryd.prog 26 #[.int .i64 1] w' fun e w'' => e = .returned (.int .u64 ((allN 0 23) : Int)) ∧ Below w'.heap.size w' w'') := fun w' hb => whole_any 1 (by omega) w' (he.up hb)
    have L1 : Hid (∀ w', Below w.heap.size w w' → Calls Tryd.prog 27 #[.int .u64 (r.ho : Int)] w' fun e w'' => e = .returned (.string (strOfNums (listF r.ho 64))) ∧ Below w'.heap.size w' w'') := fun w' hb => list_any r.ho (hr _ (by simp [Ru.sets])) w' (he.up hb)
    have uu1 := beq_nat r.ho (allN 0 23)
    have A2 : Hid (∀ w', Below w.heap.size w w' → Calls Tryd.prog 26 #[.int .i64 2] w' fun e w'' => e = .returned (.int .u64 ((allN 1 31) : Int)) ∧ Below w'.heap.size w' w'') := fun w' hb => whole_any 2 (by omega) w' (he.up hb)
    have L2 : Hid (∀ w', Below w.heap.size w w' → Calls Tryd.prog 27 #[.int .u64 (r.da : Int)] w' fun e w'' => e = .returned (.string (strOfNums (listF r.da 64))) ∧ Below w'.heap.size w' w'') := fun w' hb => list_any r.da (hr _ (by simp [Ru.sets])) w' (he.up hb)
    have uu2 := beq_nat r.da (allN 1 31)
    have A3 : Hid (∀ w', Below w.heap.size w w' → Calls Tryd.prog 26 #[.int .i64 3] w' fun e w'' => e = .returned (.int .u64 ((allN 1 12) : Int)) ∧ Below w'.heap.size w' w'') := fun w' hb => whole_any 3 (by omega) w' (he.up hb)
    have L3 : Hid (∀ w', Below w.heap.size w w' → Calls Tryd.prog 27 #[.int .u64 (r.mo : Int)] w' fun e w'' => e = .returned (.string (strOfNums (listF r.mo 64))) ∧ Below w'.heap.size w' w'') := fun w' hb => list_any r.mo (hr _ (by simp [Ru.sets])) w' (he.up hb)
    have uu3 := beq_nat r.mo (allN 1 12)
    have A4 : Hid (∀ w', Below w.heap.size w w' → Calls Tryd.prog 26 #[.int .i64 4] w' fun e w'' => e = .returned (.int .u64 ((allN 0 6) : Int)) ∧ Below w'.heap.size w' w'') := fun w' hb => whole_any 4 (by omega) w' (he.up hb)
    have L4 : Hid (∀ w', Below w.heap.size w w' → Calls Tryd.prog 27 #[.int .u64 (r.we : Int)] w' fun e w'' => e = .returned (.string (strOfNums (listF r.we 64))) ∧ Below w'.heap.size w' w'') := fun w' hb => list_any r.we (hr _ (by simp [Ru.sets])) w' (he.up hb)
    have uu4 := beq_nat r.we (allN 0 6)
    have T0 := hid (fun h => listL_star (s := r.mi) (w := (allN 0 59)) h)
    have N0 := hid (fun h => listL_list (s := r.mi) (w := (allN 0 59)) (b := true) h)
    have T1 := hid (fun h => listL_star (s := r.ho) (w := (allN 0 23)) h)
    have N1 := hid (fun h => listL_list (s := r.ho) (w := (allN 0 23)) (b := true) h)
    have T3 := hid (fun h => listL_star (s := r.mo) (w := (allN 1 12)) h)
    have N3 := hid (fun h => listL_list (s := r.mo) (w := (allN 1 12)) (b := true) h)
    have T2 : Hid (r.ad = true → listL r.da (allN 1 31) r.ad = [42]) := fun h => by rw [h]; exact listL_star (by rw [c2 h]; simp)
    have N2 : Hid (r.ad = false → listL r.da (allN 1 31) r.ad = listF r.da 64) := fun h => by rw [h]; exact listL_list rfl
    have T4 : Hid (r.aw = true → listL r.we (allN 0 6) r.aw = [42]) := fun h => by rw [h]; exact listL_star (by rw [c4 h]; simp)
    have N4 : Hid (r.aw = false → listL r.we (allN 0 6) r.aw = listF r.we 64) := fun h => by rw [h]; exact listL_list rfl
    have WP : Hid (wordsP r = [listL r.mi (allN 0 59) true, listL r.ho (allN 0 23) true, listL r.da (allN 1 31) r.ad, listL r.mo (allN 1 12) true, listL r.we (allN 0 6) r.aw]) := rfl
    have PL : (printL r).length ≤ 1000 := by
      unfold printL
      have l0 := listL_len r.mi (allN 0 59) true
      have l1 := listL_len r.ho (allN 0 23) true
      have l2 := listL_len r.da (allN 1 31) r.ad
      have l3 := listL_len r.mo (allN 1 12) true
      have l4 := listL_len r.we (allN 0 6) r.aw
      simp only [List.length_append, List.length_cons]
      omega
    have HJ : Hid (∀ v w', TextsW w' v (wordsP r) → Calls Tryd.prog 28 #[v, .string { data := #[32] }] w' fun e w'' => e = .returned (.string (strOfNums (printL r))) ∧ Below w'.heap.size w' w'') := by
      intro v w' h
      have e32 : ((32 : UInt8).toNat : Int) = 32 := rfl
      have := join_any (wordsP r) 32 v w' h (by rw [e32, E2.out]; omega) (by rw [WP.out]; simp)
      rw [e32, E2.out] at this
      exact this
    have e42 : ({ data := #[42] } : ByteArray) = strOfNums [42] := rfl
    clear hr he hc c2 c4 PL E2
    generalize listL r.mi (allN 0 59) true = t0 at *
    generalize listF r.mi 64 = f0 at *
    generalize (r.mi == (allN 0 59)) = u0 at *
    generalize listL r.ho (allN 0 23) true = t1 at *
    generalize listF r.ho 64 = f1 at *
    generalize (r.ho == (allN 0 23)) = u1 at *
    generalize listL r.da (allN 1 31) r.ad = t2 at *
    generalize listF r.da 64 = f2 at *
    generalize (r.da == (allN 1 31)) = u2 at *
    generalize listL r.mo (allN 1 12) true = t3 at *
    generalize listF r.mo 64 = f3 at *
    generalize (r.mo == (allN 1 12)) = u3 at *
    generalize listL r.we (allN 0 6) r.aw = t4 at *
    generalize listF r.we 64 = f4 at *
    generalize (r.we == (allN 0 6)) = u4 at *
    generalize (allN 0 59) = W0 at *
    generalize (allN 0 23) = W1 at *
    generalize (allN 1 31) = W2 at *
    generalize (allN 1 12) = W3 at *
    generalize (allN 0 6) = W4 at *
    generalize wordsP r = wp at *
    generalize printL r = pl at *
    generalize printP r = R at *
    generalize r.mi = S0 at *
    generalize r.ho = S1 at *
    generalize r.da = S2 at *
    generalize r.mo = S3 at *
    generalize r.we = S4 at *
    generalize r.ad = ad at *
    generalize r.aw = aw at *
    have ix0 : ∀ w, (Instr.index 53 (.agg #[.int .u64 (S0 : Int), .int .u64 (S1 : Int), .int .u64 (S2 : Int), .int .u64 (S3 : Int), .int .u64 (S4 : Int)]) (.int .i64 0)).run Tryd.prog w = .ok (.int .u64 (S0 : Int)) w := fun w => at_u64 _ _ _ _ _ 0 _ rfl w
    have ix1 : ∀ w, (Instr.index 53 (.agg #[.int .u64 (S0 : Int), .int .u64 (S1 : Int), .int .u64 (S2 : Int), .int .u64 (S3 : Int), .int .u64 (S4 : Int)]) (.int .i64 1)).run Tryd.prog w = .ok (.int .u64 (S1 : Int)) w := fun w => at_u64 _ _ _ _ _ 1 _ rfl w
    have ix2 : ∀ w, (Instr.index 53 (.agg #[.int .u64 (S0 : Int), .int .u64 (S1 : Int), .int .u64 (S2 : Int), .int .u64 (S3 : Int), .int .u64 (S4 : Int)]) (.int .i64 2)).run Tryd.prog w = .ok (.int .u64 (S2 : Int)) w := fun w => at_u64 _ _ _ _ _ 2 _ rfl w
    have ix3 : ∀ w, (Instr.index 53 (.agg #[.int .u64 (S0 : Int), .int .u64 (S1 : Int), .int .u64 (S2 : Int), .int .u64 (S3 : Int), .int .u64 (S4 : Int)]) (.int .i64 3)).run Tryd.prog w = .ok (.int .u64 (S3 : Int)) w := fun w => at_u64 _ _ _ _ _ 3 _ rfl w
    have ix4 : ∀ w, (Instr.index 53 (.agg #[.int .u64 (S0 : Int), .int .u64 (S1 : Int), .int .u64 (S2 : Int), .int .u64 (S3 : Int), .int .u64 (S4 : Int)]) (.int .i64 4)).run Tryd.prog w = .ok (.int .u64 (S4 : Int)) w := fun w => at_u64 _ _ _ _ _ 4 _ rfl w
    go_enter Tryd.func10, Tryd.ntmps10
    go_wp2_with fail
    refine (HC.out _ U0.out).mono ?_
    rintro e w1 ⟨rfl, hb1⟩
    have U1 := hid (up_trans U0.out hb1)
    have k1 := hid (blk_up b0.out hb1)
    clear hb1 b0 U0
    have y0 := blk_cell k1.out 0 _ rfl
    have y1 := blk_cell k1.out 1 _ rfl
    have y2 := blk_cell k1.out 2 _ rfl
    have y3 := blk_cell k1.out 3 _ rfl
    have y4 := blk_cell k1.out 4 _ rfl
    have y5 := blk_cell k1.out 5 _ rfl
    have y6 := blk_cell k1.out 6 _ rfl
    go_wp2_with fail
    refine (HA.out _).mono ?_
    rintro e w2 ⟨rfl, hb2⟩
    have U2 := hid (up_al (up_trans U1.out hb2) (.cells #[.bool false, .bool false, .bool ad, .bool false, .bool aw] 60))
    have m2 := hid (blk_new w2 (.cells #[.bool false, .bool false, .bool ad, .bool false, .bool aw] 60))
    have r2 := blk_up (blk_up k1.out hb2) (up_alloc w2 (.cells #[.bool false, .bool false, .bool ad, .bool false, .bool aw] 60))
    clear y0 y1 y2 y3 y4 y5 y6 hb2 k1
    have y0 := blk_cell r2 0 _ rfl
    have y1 := blk_cell r2 1 _ rfl
    have y2 := blk_cell r2 2 _ rfl
    have y3 := blk_cell r2 3 _ rfl
    have y4 := blk_cell r2 4 _ rfl
    have y5 := blk_cell r2 5 _ rfl
    have y6 := blk_cell r2 6 _ rfl
    clear r2
    go_wp2_with fail
    refine (HS.out _).mono ?_
    rintro e w3 ⟨rfl, hb3⟩
    have U3 := hid (up_trans U2.out hb3)
    have K3 := hid (blk_up m2.out hb3)
    clear y0 y1 y2 y3 y4 y5 y6 hb3 m2 HS HA HC U1 U2
    go_wp2_with fail
    go_loopw [6, 19] (fun v q wr => ∃ (k : Nat) (d : List (List Int)) (a : Option Addr) (m c : Nat), k ≤ 5 ∧ q = .int .i64 (k : Int) ∧ v = .slice a m c ∧ Hid (d = wp.take k) ∧ Hid (OwnR wr w3.heap.size 9 1 (.slice a m c) (d.map srow)) ∧ Hid (Below w3.heap.size w3 wr)) (fun _ q _ => (5 - intOf q).toNat)
    case atStart => exact ⟨0, [], none, 0, 0, by omega, rfl, rfl, rfl, OwnR.nil _ _ _ _, Below.refl _ _⟩
    case round =>
      obtain ⟨k, d, a, m, c, hk, rfl, rfl, HD, HO, HB⟩ := hrel
      have UB := hid (up_trans U3.out HB.out)
      have KB := hid (blk_up K3.out HB.out)
      have dl : d.length ≤ 5 := by rw [HD.out, List.length_take]; omega
      have STEP : Hid (∀ (t : List Int) (wr' : World) (v' : Value), wp.take (k + 1) = wp.take k ++ [t] → Below w3.heap.size w3 wr' → OwnR wr' w3.heap.size 9 1 v' (d.map srow ++ [srow t]) → ∃ (d' : List (List Int)) (a' : Option Addr) (m' c' : Nat), v' = .slice a' m' c' ∧ d' = wp.take (k + 1) ∧ OwnR wr' w3.heap.size 9 1 (.slice a' m' c') (d'.map srow) ∧ Below w3.heap.size w3 wr') := by
        intro t wr' v' h1 h2 h3
        have h3 : OwnR wr' w3.heap.size 9 1 v' ((d ++ [t]).map srow) := by rw [List.map_append]; exact h3
        obtain ⟨a', c', e', _, _⟩ := (Rws.own h3 : Rws 1 wr' v' _).len
        subst e'
        exact ⟨d ++ [t], a', _, c', rfl, by rw [h1, HD.out], h3, h2⟩
      match k, hk with
      | 5, _ =>
        have hd : d = wp := by rw [HD.out, WP.out]; rfl
        subst hd
        have TW := hid (Rws.own HO.out : Rws 1 wr (.slice a m c) _)
        have J1 := hid (HJ.out (.slice a m c) wr TW.out)
        clear HO HJ STEP HD
        clear A0 L0 T0 N0
        clear A1 L1 T1 N1
        clear A2 L2 T2 N2
        clear A3 L3 T3 N3
        clear A4 L4 T4 N4
        go_wp2_with fail
        refine J1.out.mono ?_
        rintro e w5 ⟨rfl, hb5⟩
        go_wp2_with fail
        go_ret2
        exact ⟨by rw [E.out]; rfl, up_trans UB.out hb5⟩
      | 0, _ =>
        have x0 := blk_cell KB.out 0 _ rfl
        clear A1 L1 T1 N1 A2 L2 T2 N2 A3 L3 T3 N3 A4 L4 T4 N4 HJ E
        go_wp2_with fail
        refine (A0.out _ UB.out).mono ?_
        rintro e w4 ⟨rfl, hb4⟩
        have B4 := hid (up_trans HB.out hb4)
        have U4 := hid (up_trans UB.out hb4)
        have HO4 := hid (HO.out.up hb4)
        clear x0 hb4
        cases u0
        · have TT : Hid (t0 = f0) := N0.out rfl
          go_wp2_with fail
          refine (L0.out _ U4.out).mono ?_
          rintro e w5 ⟨rfl, hb5⟩
          have BB := hid (up_trans B4.out hb5)
          have hsize := BB.out.size
          have HO5 := hid (HO4.out.up hb5)
          clear hb5
          go_wp2_with (at_builtin; refine wpList_append_row _ rfl _ _ 56 9 (.string ⟨#[]⟩) 1 16 rfl Tryd.underlying56 infoS rfl (by decide) w3.heap.size _ (d.map srow) rfl HO5.out (srow f0) _ _ rfl rfl rfl rfl ?o1 ?c1 ?d1 ?e1 ?_)
          try case o1 =>
            intro u hu
            cases List.mem_singleton.1 hu
            rfl
          try case c1 => (first | omega | (simp only [List.length_map]; omega))
          try case d1 => (first | omega | (unfold maxLen; omega) | (simp only [List.length_map, maxLen]; omega))
          try case e1 => exact hsize
          intro v' w6 hown hb6
          have UB6 : Hid (Below w3.heap.size w3 w6) := BB.out.trans hb6
          obtain ⟨d', a', m', c', rfl, hd', ho', hb'⟩ := STEP.out f0 w6 v' (by rw [WP.out, TT.out]; rfl) UB6.out hown
          have HD' := hid hd'
          have HO' := hid ho'
          clear hown hb6 hd' ho' STEP
          go_wp2_with fail
          exact ⟨⟨1, d', a', m', c', by omega, by first | rfl | go_num, rfl, HD', HO', hb'⟩, by simp [intOf]⟩
        · have TT : Hid (t0 = [42]) := T0.out rfl
          have BB := B4
          have hsize := BB.out.size
          go_wp2_with (at_builtin; refine wpList_append_row _ rfl _ _ 56 9 (.string ⟨#[]⟩) 1 16 rfl Tryd.underlying56 infoS rfl (by decide) w3.heap.size _ (d.map srow) rfl HO4.out (srow [42]) _ _ rfl rfl rfl rfl ?o2 ?c2 ?d2 ?e2 ?_)
          try case o2 =>
            intro u hu
            cases List.mem_singleton.1 hu
            rfl
          try case c2 => (first | omega | (simp only [List.length_map]; omega))
          try case d2 => (first | omega | (unfold maxLen; omega) | (simp only [List.length_map, maxLen]; omega))
          try case e2 => exact hsize
          intro v' w6 hown hb6
          have UB6 : Hid (Below w3.heap.size w3 w6) := BB.out.trans hb6
          obtain ⟨d', a', m', c', rfl, hd', ho', hb'⟩ := STEP.out [42] w6 v' (by rw [WP.out, TT.out]; rfl) UB6.out hown
          have HD' := hid hd'
          have HO' := hid ho'
          clear hown hb6 hd' ho' STEP
          go_wp2_with fail
          exact ⟨⟨1, d', a', m', c', by omega, by first | rfl | go_num, rfl, HD', HO', hb'⟩, by simp [intOf]⟩
      | 1, _ =>
        have x1 := blk_cell KB.out 1 _ rfl
        clear A0 L0 T0 N0 A2 L2 T2 N2 A3 L3 T3 N3 A4 L4 T4 N4 HJ E
        go_wp2_with fail
        refine (A1.out _ UB.out).mono ?_
        rintro e w4 ⟨rfl, hb4⟩
        have B4 := hid (up_trans HB.out hb4)
        have U4 := hid (up_trans UB.out hb4)
        have HO4 := hid (HO.out.up hb4)
        clear x1 hb4
        cases u1
        · have TT : Hid (t1 = f1) := N1.out rfl
          go_wp2_with fail
          refine (L1.out _ U4.out).mono ?_
          rintro e w5 ⟨rfl, hb5⟩
          have BB := hid (up_trans B4.out hb5)
          have hsize := BB.out.size
          have HO5 := hid (HO4.out.up hb5)
          clear hb5
          go_wp2_with (at_builtin; refine wpList_append_row _ rfl _ _ 56 9 (.string ⟨#[]⟩) 1 16 rfl Tryd.underlying56 infoS rfl (by decide) w3.heap.size _ (d.map srow) rfl HO5.out (srow f1) _ _ rfl rfl rfl rfl ?o3 ?c3 ?d3 ?e3 ?_)
          try case o3 =>
            intro u hu
            cases List.mem_singleton.1 hu
            rfl
          try case c3 => (first | omega | (simp only [List.length_map]; omega))
          try case d3 => (first | omega | (unfold maxLen; omega) | (simp only [List.length_map, maxLen]; omega))
          try case e3 => exact hsize
          intro v' w6 hown hb6
          have UB6 : Hid (Below w3.heap.size w3 w6) := BB.out.trans hb6
          obtain ⟨d', a', m', c', rfl, hd', ho', hb'⟩ := STEP.out f1 w6 v' (by rw [WP.out, TT.out]; rfl) UB6.out hown
          have HD' := hid hd'
          have HO' := hid ho'
          clear hown hb6 hd' ho' STEP
          go_wp2_with fail
          exact ⟨⟨2, d', a', m', c', by omega, by first | rfl | go_num, rfl, HD', HO', hb'⟩, by simp [intOf]⟩
        · have TT : Hid (t1 = [42]) := T1.out rfl
          have BB := B4
          have hsize := BB.out.size
          go_wp2_with (at_builtin; refine wpList_append_row _ rfl _ _ 56 9 (.string ⟨#[]⟩) 1 16 rfl Tryd.underlying56 infoS rfl (by decide) w3.heap.size _ (d.map srow) rfl HO4.out (srow [42]) _ _ rfl rfl rfl rfl ?o4 ?c4 ?d4 ?e4 ?_)
          try case o4 =>
            intro u hu
            cases List.mem_singleton.1 hu
            rfl
          try case c4 => (first | omega | (simp only [List.length_map]; omega))
          try case d4 => (first | omega | (unfold maxLen; omega) | (simp only [List.length_map, maxLen]; omega))
          try case e4 => exact hsize
          intro v' w6 hown hb6
          have UB6 : Hid (Below w3.heap.size w3 w6) := BB.out.trans hb6
          obtain ⟨d', a', m', c', rfl, hd', ho', hb'⟩ := STEP.out [42] w6 v' (by rw [WP.out, TT.out]; rfl) UB6.out hown
          have HD' := hid hd'
          have HO' := hid ho'
          clear hown hb6 hd' ho' STEP
          go_wp2_with fail
          exact ⟨⟨2, d', a', m', c', by omega, by first | rfl | go_num, rfl, HD', HO', hb'⟩, by simp [intOf]⟩
      | 2, _ =>
        have x2 := blk_cell KB.out 2 _ rfl
        clear A0 L0 T0 N0 A1 L1 T1 N1 A3 L3 T3 N3 A4 L4 T4 N4 HJ E
        cases ad
        · have TT : Hid (t2 = f2) := N2.out rfl
          go_wp2_with fail
          refine (L2.out _ UB.out).mono ?_
          rintro e w5 ⟨rfl, hb5⟩
          have BB := hid (up_trans HB.out hb5)
          have hsize := BB.out.size
          have HO5 := hid (HO.out.up hb5)
          clear x2 hb5
          go_wp2_with (at_builtin; refine wpList_append_row _ rfl _ _ 56 9 (.string ⟨#[]⟩) 1 16 rfl Tryd.underlying56 infoS rfl (by decide) w3.heap.size _ (d.map srow) rfl HO5.out (srow f2) _ _ rfl rfl rfl rfl ?o5 ?c5 ?d5 ?e5 ?_)
          try case o5 =>
            intro u hu
            cases List.mem_singleton.1 hu
            rfl
          try case c5 => (first | omega | (simp only [List.length_map]; omega))
          try case d5 => (first | omega | (unfold maxLen; omega) | (simp only [List.length_map, maxLen]; omega))
          try case e5 => exact hsize
          intro v' w6 hown hb6
          have UB6 : Hid (Below w3.heap.size w3 w6) := BB.out.trans hb6
          obtain ⟨d', a', m', c', rfl, hd', ho', hb'⟩ := STEP.out f2 w6 v' (by rw [WP.out, TT.out]; rfl) UB6.out hown
          have HD' := hid hd'
          have HO' := hid ho'
          clear hown hb6 hd' ho' STEP
          go_wp2_with fail
          exact ⟨⟨3, d', a', m', c', by omega, by first | rfl | go_num, rfl, HD', HO', hb'⟩, by simp [intOf]⟩
        · have TT : Hid (t2 = [42]) := T2.out rfl
          have BB := HB
          have hsize := BB.out.size
          go_wp2_with (at_builtin; refine wpList_append_row _ rfl _ _ 56 9 (.string ⟨#[]⟩) 1 16 rfl Tryd.underlying56 infoS rfl (by decide) w3.heap.size _ (d.map srow) rfl HO.out (srow [42]) _ _ rfl rfl rfl rfl ?o6 ?c6 ?d6 ?e6 ?_)
          try case o6 =>
            intro u hu
            cases List.mem_singleton.1 hu
            rfl
          try case c6 => (first | omega | (simp only [List.length_map]; omega))
          try case d6 => (first | omega | (unfold maxLen; omega) | (simp only [List.length_map, maxLen]; omega))
          try case e6 => exact hsize
          intro v' w6 hown hb6
          have UB6 : Hid (Below w3.heap.size w3 w6) := BB.out.trans hb6
          obtain ⟨d', a', m', c', rfl, hd', ho', hb'⟩ := STEP.out [42] w6 v' (by rw [WP.out, TT.out]; rfl) UB6.out hown
          have HD' := hid hd'
          have HO' := hid ho'
          clear hown hb6 hd' ho' STEP
          go_wp2_with fail
          exact ⟨⟨3, d', a', m', c', by omega, by first | rfl | go_num, rfl, HD', HO', hb'⟩, by simp [intOf]⟩
      | 3, _ =>
        have x3 := blk_cell KB.out 3 _ rfl
        clear A0 L0 T0 N0 A1 L1 T1 N1 A2 L2 T2 N2 A4 L4 T4 N4 HJ E
        go_wp2_with fail
        refine (A3.out _ UB.out).mono ?_
        rintro e w4 ⟨rfl, hb4⟩
        have B4 := hid (up_trans HB.out hb4)
        have U4 := hid (up_trans UB.out hb4)
        have HO4 := hid (HO.out.up hb4)
        clear x3 hb4
        cases u3
        · have TT : Hid (t3 = f3) := N3.out rfl
          go_wp2_with fail
          refine (L3.out _ U4.out).mono ?_
          rintro e w5 ⟨rfl, hb5⟩
          have BB := hid (up_trans B4.out hb5)
          have hsize := BB.out.size
          have HO5 := hid (HO4.out.up hb5)
          clear hb5
          go_wp2_with (at_builtin; refine wpList_append_row _ rfl _ _ 56 9 (.string ⟨#[]⟩) 1 16 rfl Tryd.underlying56 infoS rfl (by decide) w3.heap.size _ (d.map srow) rfl HO5.out (srow f3) _ _ rfl rfl rfl rfl ?o7 ?c7 ?d7 ?e7 ?_)
          try case o7 =>
            intro u hu
            cases List.mem_singleton.1 hu
            rfl
          try case c7 => (first | omega | (simp only [List.length_map]; omega))
          try case d7 => (first | omega | (unfold maxLen; omega) | (simp only [List.length_map, maxLen]; omega))
          try case e7 => exact hsize
          intro v' w6 hown hb6
          have UB6 : Hid (Below w3.heap.size w3 w6) := BB.out.trans hb6
          obtain ⟨d', a', m', c', rfl, hd', ho', hb'⟩ := STEP.out f3 w6 v' (by rw [WP.out, TT.out]; rfl) UB6.out hown
          have HD' := hid hd'
          have HO' := hid ho'
          clear hown hb6 hd' ho' STEP
          go_wp2_with fail
          exact ⟨⟨4, d', a', m', c', by omega, by first | rfl | go_num, rfl, HD', HO', hb'⟩, by simp [intOf]⟩
        · have TT : Hid (t3 = [42]) := T3.out rfl
          have BB := B4
          have hsize := BB.out.size
          go_wp2_with (at_builtin; refine wpList_append_row _ rfl _ _ 56 9 (.string ⟨#[]⟩) 1 16 rfl Tryd.underlying56 infoS rfl (by decide) w3.heap.size _ (d.map srow) rfl HO4.out (srow [42]) _ _ rfl rfl rfl rfl ?o8 ?c8 ?d8 ?e8 ?_)
          try case o8 =>
            intro u hu
            cases List.mem_singleton.1 hu
            rfl
          try case c8 => (first | omega | (simp only [List.length_map]; omega))
          try case d8 => (first | omega | (unfold maxLen; omega) | (simp only [List.length_map, maxLen]; omega))
          try case e8 => exact hsize
          intro v' w6 hown hb6
          have UB6 : Hid (Below w3.heap.size w3 w6) := BB.out.trans hb6
          obtain ⟨d', a', m', c', rfl, hd', ho', hb'⟩ := STEP.out [42] w6 v' (by rw [WP.out, TT.out]; rfl) UB6.out hown
          have HD' := hid hd'
          have HO' := hid ho'
          clear hown hb6 hd' ho' STEP
          go_wp2_with fail
          exact ⟨⟨4, d', a', m', c', by omega, by first | rfl | go_num, rfl, HD', HO', hb'⟩, by simp [intOf]⟩
      | 4, _ =>
        have x4 := blk_cell KB.out 4 _ rfl
        clear A0 L0 T0 N0 A1 L1 T1 N1 A2 L2 T2 N2 A3 L3 T3 N3 HJ E
        cases aw
        · have TT : Hid (t4 = f4) := N4.out rfl
          go_wp2_with fail
          refine (L4.out _ UB.out).mono ?_
          rintro e w5 ⟨rfl, hb5⟩
          have BB := hid (up_trans HB.out hb5)
          have hsize := BB.out.size
          have HO5 := hid (HO.out.up hb5)
          clear x4 hb5
          go_wp2_with (at_builtin; refine wpList_append_row _ rfl _ _ 56 9 (.string ⟨#[]⟩) 1 16 rfl Tryd.underlying56 infoS rfl (by decide) w3.heap.size _ (d.map srow) rfl HO5.out (srow f4) _ _ rfl rfl rfl rfl ?o9 ?c9 ?d9 ?e9 ?_)
          try case o9 =>
            intro u hu
            cases List.mem_singleton.1 hu
            rfl
          try case c9 => (first | omega | (simp only [List.length_map]; omega))
          try case d9 => (first | omega | (unfold maxLen; omega) | (simp only [List.length_map, maxLen]; omega))
          try case e9 => exact hsize
          intro v' w6 hown hb6
          have UB6 : Hid (Below w3.heap.size w3 w6) := BB.out.trans hb6
          obtain ⟨d', a', m', c', rfl, hd', ho', hb'⟩ := STEP.out f4 w6 v' (by rw [WP.out, TT.out]; rfl) UB6.out hown
          have HD' := hid hd'
          have HO' := hid ho'
          clear hown hb6 hd' ho' STEP
          go_wp2_with fail
          exact ⟨⟨5, d', a', m', c', by omega, by first | rfl | go_num, rfl, HD', HO', hb'⟩, by simp [intOf]⟩
        · have TT : Hid (t4 = [42]) := T4.out rfl
          have BB := HB
          have hsize := BB.out.size
          go_wp2_with (at_builtin; refine wpList_append_row _ rfl _ _ 56 9 (.string ⟨#[]⟩) 1 16 rfl Tryd.underlying56 infoS rfl (by decide) w3.heap.size _ (d.map srow) rfl HO.out (srow [42]) _ _ rfl rfl rfl rfl ?o10 ?c10 ?d10 ?e10 ?_)
          try case o10 =>
            intro u hu
            cases List.mem_singleton.1 hu
            rfl
          try case c10 => (first | omega | (simp only [List.length_map]; omega))
          try case d10 => (first | omega | (unfold maxLen; omega) | (simp only [List.length_map, maxLen]; omega))
          try case e10 => exact hsize
          intro v' w6 hown hb6
          have UB6 : Hid (Below w3.heap.size w3 w6) := BB.out.trans hb6
          obtain ⟨d', a', m', c', rfl, hd', ho', hb'⟩ := STEP.out [42] w6 v' (by rw [WP.out, TT.out]; rfl) UB6.out hown
          have HD' := hid hd'
          have HO' := hid ho'
          clear hown hb6 hd' ho' STEP
          go_wp2_with fail
          exact ⟨⟨5, d', a', m', c', by omega, by first | rfl | go_num, rfl, HD', HO', hb'⟩, by simp [intOf]⟩
end Go.Proofs.YtbnghhmmanleaaaDoor
