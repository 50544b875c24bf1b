/- The law WalReplays, walked: what was added is replayed; cut off anywhere, just what lies whole ahead of the cut. -/
import Derived.Test.YtgphkddcfcmaiaaWChain2
import Derived.Test.YtgphkddcfcmaiaaWRep2
namespace Go.Proofs.Ytgphkddcfcmaiaa
open Go.RowKit SumPlain
set_option linter.unusedVariables false

theorem place2 (a : Int) (N : Nat) (hN : N ≤ 1400000) : ∃ p : Nat, (wrap64 (wrap64 (a.tmod ((N : Int) + 1) + (N : Int)) + 1)).tmod ((N : Int) + 1) = (p : Int) ∧ p ≤ N := by
  have h1 := Int.tmod_lt_of_pos a (show (0 : Int) < (N : Int) + 1 by omega)
  have h2 : -((N : Int) + 1) < a.tmod ((N : Int) + 1) := Int.lt_tmod_of_pos a (show (0 : Int) < (N : Int) + 1 by omega)
  generalize a.tmod ((N : Int) + 1) = q at *
  have e1 : wrap64 (q + (N : Int)) = q + (N : Int) := by unfold wrap64; omega
  rw [e1]
  have e2 : wrap64 (q + (N : Int) + 1) = q + (N : Int) + 1 := by unfold wrap64; omega
  rw [e2]
  have h3 := Int.tmod_lt_of_pos (q + (N : Int) + 1) (show (0 : Int) < (N : Int) + 1 by omega)
  have h4 : 0 ≤ (q + (N : Int) + 1).tmod ((N : Int) + 1) := Int.tmod_nonneg _ (by omega)
  exact ⟨((q + (N : Int) + 1).tmod ((N : Int) + 1)).toNat, by omega, by omega⟩

theorem trip_pair (gs : List (Int × List Chg)) : (gs.map tripB).map pairB = gs := by
  rw [List.map_map]
  refine (List.map_congr_left (g := id) fun g _ => ?_).trans (by simp)
  rfl

/-- A log's replay, by its octets. -/
theorem replay_of (b : List Int) (v : Value) (w : World) (hv : Octs w v b) (hl : b.length ≤ 140737488355328) (hs : List (Int × List Chg)) (he : replOf 4 b = hs.map tripB) (E : Nat) (hE : sizeR (hs.map tripB) = E) :
    Calls Try.prog 26 #[v] w fun e w' => ∃ (ys : List (Value × Int × List Chg)) (a : Option Addr) (c : Nat), e = .returned (.tuple #[.slice a ys.length c, .int .i64 (E : Int)]) ∧ Hid (BatsR w' (.slice a ys.length c) ys ∧ ys.map (·.2) = hs) ∧ Hid (Below w.heap.size w w') := by
  refine (replay_any b v w hv hl).mono ?_
  rintro e w' ⟨ys, a, c, rfl, h1, h2, h3⟩
  rw [he] at h2 ⊢
  rw [hE]
  refine ⟨ys, a, c, rfl, ⟨h1.read, ?_⟩, h3⟩
  rw [h2, trip_pair]

theorem endsF_at (gs : List (Int × List Int)) (i : Nat) (hi : i < gs.length) : (endsF gs)[i]? = some (catF (gs.take (i + 1))).length := by
  unfold endsF
  simp [hi]

set_option maxHeartbeats 2000000 in
set_option maxRecDepth 100000 in
theorem replays_walk (zs : List (Value × Int × List Chg)) (v : Value) (at_ : Int) (w : World) (hv : BatsR w v zs) (hb : ∀ z ∈ zs, z.2.2.length * 40 ≤ 140737488355328) :
    Calls Try.prog 6 #[v, .int .i64 at_] w fun e w' => e = .returned (.bool true) ∧ Below w.heap.size w w' := by
  obtain ⟨a, cap, rfl, _, _⟩ := hv.len
  have HC : Hid (Calls Try.prog 29 #[.slice a zs.length cap] w fun e w' => ChainEnd w e w') := chain_any zs _ w hv hb
  clear hv hb
  go_enter Try.func6, Try.ntmps6
  go_wp2_with fail
  refine HC.out.mono ?_
  rintro e w1 ⟨gs, ag, cg, al, cl, ae, ce, next, rfl, CI, hg20⟩
  have U1 : Hid (Below w.heap.size w w1) := CI.up
  have hNb : (logOf gs).length ≤ 70000 * gs.length := CI.bound
  obtain ⟨p, hp, hpN⟩ := place2 at_ (logOf gs).length (by omega)
  have hRow := CI.row
  have HO : Hid (Octs w1 (.slice al (logOf gs).length cl) (logOf gs)) := CI.octs
  have HG : Hid (BatsR w1 (.slice ag gs.length cg) gs) := ⟨Rws.own CI.good, fun y hy => (CI.chg y hy).up CI.up⟩
  have HREP : Hid (∀ wx, Below w1.heap.size w1 wx → Calls Try.prog 26 #[.slice al (logOf gs).length cl] wx fun e w' => ∃ (ys : List (Value × Int × List Chg)) (a : Option Addr) (c : Nat), e = .returned (.tuple #[.slice a ys.length c, .int .i64 ((logOf gs).length : Int)]) ∧ Hid (BatsR w' (.slice a ys.length c) ys ∧ ys.map (·.2) = gs.map (·.2)) ∧ Hid (Below wx.heap.size wx w')) := by
    intro wx hx
    exact replay_of (logOf gs) _ wx (HO.out.up hx) (by omega) (gs.map (·.2)) (replOf_all 4 _ hRow) _ (sizeR_trip _)
  obtain ⟨K, hK⟩ : ∃ K, K = cntF ((gs.map (·.2)).map recOf) p := ⟨_, rfl⟩
  obtain ⟨E, hE⟩ : ∃ E, E = (catF (((gs.map (·.2)).map recOf).take K)).length := ⟨_, rfl⟩
  have hKg : K ≤ gs.length := by
    have := cntF_le ((gs.map (·.2)).map recOf) p
    rw [List.length_map, List.length_map] at this
    omega
  have HCUT : Hid (∀ wx v', Octs wx v' ((logOf gs).take p) → Calls Try.prog 26 #[v'] wx fun e w' => ∃ (ys : List (Value × Int × List Chg)) (a : Option Addr) (c : Nat), e = .returned (.tuple #[.slice a ys.length c, .int .i64 (E : Int)]) ∧ Hid (BatsR w' (.slice a ys.length c) ys ∧ ys.map (·.2) = (gs.take K).map (·.2)) ∧ Hid (Below wx.heap.size wx w')) := by
    intro wx v' hx
    rw [List.map_take]
    refine replay_of _ v' wx hx (by rw [List.length_take]; omega) ((gs.map (·.2)).take K) ?_ E ?_
    · rw [replOf_cut 4 _ none hRow p hpN, hK]
    · rw [sizeR_trip, List.map_take, hE]
  have HLast : Hid (lastF ((gs.map (·.2)).map recOf) p gs.length = (K, E)) := by
    unfold Hid
    have h := lastF_cnt ((gs.map (·.2)).map recOf) p gs.length (by rw [List.length_map, List.length_map]; exact Nat.le_refl _)
    rw [h, Nat.min_eq_right (by rw [← hK]; exact hKg), ← hK, ← hE]
  have hE14 : E ≤ 1400000 := by
    have h1 := catF_len (((gs.map (·.2)).map recOf).take K) (fun g hg => hRow.okRec g (List.mem_of_mem_take hg))
    rw [List.length_take, List.length_map, List.length_map] at h1
    omega
  have HEnd : Hid (∀ g6, ae = some ⟨g6, 0, none⟩ → ∀ wx, Below w1.heap.size w1 wx → ∀ i, i < gs.length → wx.cell? ⟨g6, i, none⟩ = some (.int .i64 ((catF (((gs.map (·.2)).map recOf).take (i + 1))).length : Int))) := by
    rintro g6 rfl wx hx i hi
    obtain ⟨b', off', cap', e, _, _, hc⟩ := (Rws.own (CI.ends.up hx)).at i (by simp [endsF]; exact hi)
    simp only [Value.slice.injEq, Option.some.injEq, Addr.mk.injEq] at e
    obtain ⟨⟨rfl, rfl, _⟩, _, _⟩ := e
    have hg : ((endsF ((gs.map (·.2)).map recOf)).map irow).getD i [] = irow (catF (((gs.map (·.2)).map recOf).take (i + 1))).length := by
      have := endsF_at ((gs.map (·.2)).map recOf) i (by rw [List.length_map, List.length_map]; exact hi)
      rw [List.getD_eq_getElem?_getD, List.getElem?_map, this]
      rfl
    rw [hg] at hc
    have := hc 0 _ rfl
    simpa using this
  by_cases hgn : gs = []
  · obtain ⟨rfl, rfl, rfl, rfl, rfl, rfl⟩ := CI.nz hgn
    subst hgn
    obtain rfl : p = 0 := by simpa [logOf, catF] using hpN
    obtain rfl : K = 0 := by simpa using hKg
    obtain rfl : E = 0 := by rw [hE]; simp [catF]
    simp only [logOf, List.map_nil, catF, List.length_nil, List.take_nil] at HREP HCUT HO HG hp ⊢
    clear hNb hRow HLast CI HEnd hK hE HC
    go_wp2_with fail
    refine (alive_any _).mono ?_
    rintro e w2 ⟨rfl, b2⟩
    have U2 : Hid (Below w1.heap.size w1 w2) := b2
    clear b2
    go_wp2_with fail
    refine (HREP.out _ U2.out).mono ?_
    rintro e w3 ⟨ys, a3, c3, rfl, X3, b3⟩
    have U3 : Hid (Below w1.heap.size w1 w3) := up_trans U2.out b3.out
    obtain rfl : ys = [] := by have := X3.out.2; simpa using this
    clear b3
    go_wp2_with fail
    refine (sameAll_self [] [] _ _ _ X3.out.1 (HG.out.up U3.out) rfl).mono ?_
    rintro e w4 ⟨rfl, b4⟩
    have U4 : Hid (Below w1.heap.size w1 w4) := up_trans U3.out b4
    clear b4 X3
    go_wp2_with fail
    go_loopw [11, 12, 13] (fun p11 p12 p13 wx => p11 = .int .i64 0 ∧ p12 = .int .i64 0 ∧ p13 = .int .i64 0 ∧ Hid (Below w1.heap.size w1 wx)) (fun _ _ _ _ => 0)
    case atStart => exact ⟨rfl, rfl, rfl, U4⟩
    case round =>
      obtain ⟨rfl, rfl, rfl, BX⟩ := hrel
      go_wp2_with fail
      refine (HCUT.out _ _ ⟨by simp, .inl ⟨rfl, _, _, rfl, fun _ => rfl⟩⟩).mono ?_
      rintro e w5 ⟨ys, a5, c5, rfl, X5, b5⟩
      have U5 : Hid (Below w1.heap.size w1 w5) := up_trans BX.out b5.out
      obtain rfl : ys = [] := by have := X5.out.2; simpa using this
      clear b5
      go_wp2_with fail
      refine (sameAll_self [] [] _ _ _ X5.out.1 (HG.out.up U5.out) rfl).mono ?_
      rintro e w6 ⟨rfl, b6⟩
      have U6 : Hid (Below w.heap.size w w6) := up_trans U1.out (up_trans U5.out b6)
      clear b6
      go_wp2
      go_ret
      exact ⟨rfl, U6.out⟩
  · have hne : logOf gs ≠ [] := by
      intro e
      cases gs with
      | nil => exact hgn rfl
      | cons x r =>
        have h2 : (logOf (x :: r)).length = 0 := by rw [e]; rfl
        simp only [logOf, List.map_cons, catF, recOf, List.length_append] at h2
        have := frame_len 1 (encOf x.2.1 x.2.2)
        omega
    obtain ⟨g5, c5, e5, _, _, hc5, hm5⟩ := own_form CI.log hne
    simp only [Value.slice.injEq] at e5
    obtain ⟨rfl, _, hcl⟩ := e5
    rw [← hcl] at hc5 hm5
    clear hcl c5
    obtain ⟨g7, o7, rfl, hc7, hm7⟩ : ∃ g7 o7, ag = some ⟨g7, o7, none⟩ ∧ gs.length ≤ cg ∧ cg ≤ maxLen := by
      obtain ⟨b', off', cap', e, h1, h2, _⟩ := (Rws.own CI.good).at 0 (by rw [List.length_map]; exact List.length_pos_iff.2 hgn)
      simp only [Value.slice.injEq] at e
      rw [List.length_map] at h1
      exact ⟨b', off', e.1, by rw [e.2.2]; exact h1, by rw [e.2.2]; exact h2⟩
    obtain ⟨g6, rfl, hc6, hm6⟩ : ∃ g6, ae = some ⟨g6, 0, none⟩ ∧ gs.length ≤ ce ∧ ce ≤ maxLen := by
      rcases CI.ends.2.2 with ⟨h1, h2⟩ | ⟨g, c', cur, h1, _, _, h2, h3, _⟩
      · exfalso
        simp [endsF] at h2
        exact hgn h2
      · simp only [Value.slice.injEq] at h1
        refine ⟨g, h1.1, ?_, by rw [h1.2.2]; exact h3⟩
        rw [h1.2.2]
        simpa [endsF] using h2
    have HE6 := HEnd.out g6 rfl
    have HE6' : Hid (∀ wx, Below w1.heap.size w1 wx → ∀ i, i < gs.length → wx.cell? ⟨g6, i, none⟩ = some (.int .i64 ((catF (((gs.map (·.2)).map recOf).take (i + 1))).length : Int))) := HE6
    have HOC : Hid (∀ wx, Below w1.heap.size w1 wx → Octs wx (.slice (some ⟨g5, 0, none⟩) p cl) ((logOf gs).take p)) := fun wx hx => (HO.out.up hx).cut rfl p hpN
    have HGC : Hid (∀ wx, Below w1.heap.size w1 wx → BatsR wx (.slice (some ⟨g7, o7, none⟩) K cg) (gs.take K)) := fun wx hx => (HG.out.up hx).first K hKg
    unfold maxLen at hm5 hm6 hm7
    generalize hNN : (logOf gs).length = N at *
    have hN14 : N ≤ 1400000 := by omega
    clear HE6 HEnd CI hRow hK hE HC hne hNb
    generalize hRS : (gs.map (·.2)).map recOf = RS at *
    go_wp2_with fail
    refine (alive_any _).mono ?_
    rintro e w2 ⟨rfl, b2⟩
    have U2 : Hid (Below w1.heap.size w1 w2) := b2
    clear b2
    go_wp2_with fail
    refine (HREP.out _ U2.out).mono ?_
    rintro e w3 ⟨ys, a3, c3, rfl, X3, b3⟩
    have U3 : Hid (Below w1.heap.size w1 w3) := up_trans U2.out b3.out
    clear b3
    go_wp2_with fail
    refine (sameAll_self ys gs _ _ _ X3.out.1 (HG.out.up U3.out) X3.out.2).mono ?_
    rintro e w4 ⟨rfl, b4⟩
    have U4 : Hid (Below w1.heap.size w1 w4) := up_trans U3.out b4
    clear b4 X3
    go_wp2_with fail
    go_loopw [11, 12, 13] (fun p11 p12 p13 wx => ∃ i : Nat, i ≤ gs.length ∧ p11 = .int .i64 ((lastF RS p i).1 : Int) ∧ p12 = .int .i64 ((lastF RS p i).2 : Int) ∧ p13 = .int .i64 (i : Int) ∧ Hid (Below w1.heap.size w1 wx)) (fun _ _ p13 _ => gs.length - (intOf p13).toNat)
    case atStart => exact ⟨0, Nat.zero_le _, rfl, rfl, rfl, U4⟩
    case round =>
      obtain ⟨i, hi, rfl, rfl, rfl, BX⟩ := hrel
      by_cases hil : i < gs.length
      · have hil' : (i : Int) < (gs.length : Int) := by omega
        have y6 := HE6'.out _ BX.out i hil
        obtain ⟨Ei, hEi⟩ : ∃ Ei, Ei = (catF (RS.take (i + 1))).length := ⟨_, rfl⟩
        rw [← hEi] at y6
        by_cases hle : Ei ≤ p
        · have hle' : (Ei : Int) ≤ (p : Int) := by omega
          have HL1 : Hid (lastF RS p (i + 1) = (i + 1, Ei)) := by
            unfold Hid lastF
            rw [← hEi, if_pos hle]
          clear hEi
          go_wp2_with fail
          go_region
          all_goals go_wp2_with fail
          all_goals exact ⟨⟨i + 1, by omega, by rw [HL1.out]; simp, by rw [HL1.out], by go_num, up_trans BX.out (up_dr (Below.refl _ _))⟩, by simp [intOf]; omega⟩
        · have hle' : ¬ (Ei : Int) ≤ (p : Int) := by omega
          have HL1 : Hid (lastF RS p (i + 1) = lastF RS p i) := by
            unfold Hid
            rw [lastF, ← hEi, if_neg hle]
          clear hEi
          go_wp2_with fail
          exact ⟨⟨i + 1, by omega, by rw [HL1.out], by rw [HL1.out], by go_num, BX⟩, by simp [intOf]; omega⟩
      · have hig : i = gs.length := by omega
        subst hig
        rw [HLast.out]
        have hil' : ¬ (gs.length : Int) < (gs.length : Int) := by omega
        have hKc : (K : Int) ≤ (cg : Int) := by omega
        have hpc : (p : Int) ≤ (cl : Int) := by omega
        go_wp2_with fail
        refine (HCUT.out _ _ (HOC.out _ BX.out)).mono ?_
        rintro e w5 ⟨ys2, a5, c5', rfl, X5, b5⟩
        have U5 : Hid (Below w1.heap.size w1 w5) := up_trans BX.out b5.out
        clear b5
        go_wp2_with fail
        refine (sameAll_self ys2 (gs.take K) _ _ _ X5.out.1 (HGC.out _ U5.out) X5.out.2).mono ?_
        rintro e w6 ⟨rfl, b6⟩
        have U6 : Hid (Below w.heap.size w w6) := up_trans U1.out (up_trans U5.out b6)
        clear b6
        go_wp2
        go_ret
        exact ⟨rfl, U6.out⟩
end Go.Proofs.Ytgphkddcfcmaiaa
