/- MergeSame's walk. -/
import Derived.Test.YtfnddbglopoghaaKTwi
import Derived.Test.YtfnddbglopoghaaKPair
namespace Go.Proofs.Ytfnddbglopoghaa
open Go.RowKit
set_option linter.unusedVariables false
set_option linter.unusedSimpArgs false
set_option maxRecDepth 100000

theorem ints_own {w : World} {base : Nat} {v : Value} {l : List Int} {css : List (List Value)} (h : OwnR w base 3 1 v css) (e : css = l.map irow) : IntsR w v l := by
  subst e
  exact Rws.own h
/-- What was thinned tells the same, at each number that is asked. -/
theorem seen_same {l : List En} {snaps : List Int} {bot : Bool} (hE : thinE l snaps = 0) {k : Nat} {s : Int} (hs : (snaps ++ [1099511627776])[k]? = some s) : seenM (thinM l snaps bot) s = seenM l s := by
  have HO : ordL l = 0 := by
    unfold thinE at hE
    by_cases q : ordL l = 0
    · exact q
    · rw [if_pos q] at hE; exact absurd hE q
  have HM : thinM l snaps bot = thinL l snaps bot := by unfold thinM; rw [if_pos hE]
  have HO2 : ordL (thinL l snaps bot) = 0 := ord_sub HO (thin_sub l snaps bot)
  rw [HM]
  unfold seenM
  rw [if_pos HO, if_pos HO2]
  refine thin_same ((ord_iff l).1 HO).2 snaps bot s ?_
  have hm := List.mem_of_getElem? hs
  rw [List.mem_append, List.mem_singleton] at hm
  rcases hm with hm | rfl
  · exact .inl hm
  · refine .inr fun x hx => ?_
    have := ((ord_iff l).1 HO).1 x hx
    unfold mayE at this
    simp only [decide_eq_true_eq] at this
    exact this.2.2.2.1
set_option maxHeartbeats 4000000 in
theorem same_walk (HAL : AliveC) (l : List En) (snaps : List Int) (bot : Bool) (a : Option Addr) (n c : Nat) (sa : Option Addr) (sn sc : Nat) (w : World) (hv : EntsR w (.slice a n c) l) (hi : IntsR w (.slice sa sn sc) snaps) (hl : l.length ≤ 2932031007402) :
    Calls Try.prog 4 #[.slice a n c, .slice sa sn sc, .bool bot] w fun e w' => e = .returned (.bool true) ∧ Below w.heap.size w w' := by
  have HV := hid hv
  have HI := hid hi
  have HA := hid HAL
  have HN := hid mnum_any
  clear hv hi HAL
  go_enter Try.func4, Try.ntmps4
  go_wp2_with fail
  refine (HA.out _).mono ?_
  rintro e w1 ⟨rfl, u1⟩
  have HT := hid (thin_any l snaps bot a n c sa sn sc w1 (HV.out.up u1.out) (HI.out.up u1.out) hl)
  go_wp2_with fail
  refine HT.out.mono ?_
  rintro e w2 ⟨a2, n2, c2, rfl, E2, u2⟩
  have U2 : Hid (Below w.heap.size w w2) := up_trans u1.out u2.out
  clear HT u1 u2
  by_cases h0 : thinP l snaps = 0
  · have hE : Hid (thinE l snaps = 0) := (thinP_iff l snaps).1 h0
    have HO : ordL l = 0 := by
      have hE := hE.out
      unfold thinE at hE
      by_cases q : ordL l = 0
      · exact q
      · rw [if_pos q] at hE; exact absurd hE q
    have H16 : snaps.length ≤ 16 := by
      have hE := hE.out
      unfold thinE at hE
      rw [if_neg (by simpa using HO)] at hE
      by_cases q : 16 < snaps.length
      · rw [if_pos q] at hE; cases hE
      · omega
    have HC1 : Hid (chkP l = 0) := (chkP_iff l).2 HO
    have HC2 : Hid (chkP (thinM l snaps bot) = 0) := by
      unfold Hid
      rw [chkP_iff]
      unfold thinM
      rw [if_pos hE.out]
      exact ord_sub HO (thin_sub l snaps bot)
    have HL2 : Hid ((thinM l snaps bot).length ≤ l.length) := thinM_len l snaps bot
    have HSS : Hid (∀ (k : Nat) (s : Int), (snaps ++ [1099511627776])[k]? = some s → seenM (thinM l snaps bot) s = seenM l s) := fun k s h => seen_same hE.out h
    obtain ⟨M, hM⟩ : ∃ M, M = thinM l snaps bot := ⟨_, rfl⟩
    rw [← hM] at HC2 HL2 HSS E2
    have HCI := hid (copyInts_any snaps (.slice sa sn sc) w2 (HI.out.up U2.out) (by omega))
    have hnn : sn = snaps.length := by
      obtain ⟨a9, c9, e9, _⟩ := HI.out.len
      simp only [Value.slice.injEq] at e9
      exact e9.2.1
    have hn2 : n2 = M.length := by
      obtain ⟨a9, c9, e9, _⟩ := E2.out.len
      simp only [Value.slice.injEq] at e9
      exact e9.2.1
    have hn1 : n = l.length := by
      obtain ⟨a9, c9, e9, _⟩ := HV.out.len
      simp only [Value.slice.injEq] at e9
      exact e9.2.1
    have HB1 : Hid ((((snaps.map irow).length + 1) + ((snaps.map irow).length + 1) / 4 + 192) * 8 ≤ 281474976710656) := by unfold Hid; rw [List.length_map]; omega
    have HB2 : Hid ((snaps.map irow).length + 1 ≤ maxLen) := by unfold Hid maxLen; rw [List.length_map]; omega
    rw [h0]
    have HLE : (M.length : Int) ≤ (l.length : Int) := by have := HL2.out; omega
    have HLD : Hid (l.length ≤ 2932031007402 ∧ M.length ≤ 2932031007402) := ⟨hl, Nat.le_trans HL2.out hl⟩
    subst hn1 hn2
    clear h0 HO hM hnn hl
    go_wp2_with fail
    refine (HN.out 0 _).mono ?_
    rintro e w2 ⟨rfl, rfl⟩
    go_wp2_with fail
    refine HCI.out.mono ?_
    rintro e w3 ⟨a3, c3, rfl, O3, u3⟩
    have HS3 : Hid (w2.heap.size ≤ w3.heap.size) := u3.out.size
    go_wp2_with (at_builtin; refine wpList_append_row w3 rfl _ _ 37 3 _ 1 8 rfl Try.underlying37 Try.info3 rfl (by decide) w2.heap.size (.slice a3 snaps.length c3) (snaps.map irow) rfl O3.out [.int .i64 1099511627776] _ _ rfl rfl rfl rfl (by simp; rfl) HB1.out HB2.out HS3.out ?_)
    intro v4 w4 O4 B4
    have I4 : Hid (IntsR w4 v4 (snaps ++ [1099511627776])) := ints_own O4 (by simp [irow])
    have U4 : Hid (Below w.heap.size w w4) := up_trans U2.out (u3.out.trans B4)
    have HV4 : Hid (EntsR w4 (.slice a l.length c) l) := HV.out.up U4.out
    have E4 : Hid (EntsR w4 (.slice a2 M.length c2) M) := E2.out.up (u3.out.trans B4)
    obtain ⟨a4, c4, e4, _, _⟩ := I4.out.len
    subst e4
    have hS : (snaps ++ [1099511627776]).length ≤ 100 := by rw [List.length_append]; simp; omega
    clear O4 B4 O3 u3 HS3 HB1 HB2 HCI H16 HI E2 HV U2
    generalize snaps ++ [1099511627776] = S at *
    go_wp2_with fail
    go_loopw [10] (fun i wr => ∃ k : Nat, k ≤ S.length ∧ i = .int .i64 k ∧ Hid (Below w4.heap.size w4 wr)) (fun i _ => S.length - (intOf i).toNat)
    case atStart => exact ⟨0, Nat.zero_le _, rfl, Below.refl _ _⟩
    case round =>
      obtain ⟨k, hk, rfl, hU⟩ := hrel
      by_cases hlt : k < S.length
      · have hlt' : (k : Int) < (S.length : Int) := by omega
        obtain ⟨b, off, cap, s, e, hs, x0⟩ := I4.out.at k hlt
        simp only [Value.slice.injEq] at e
        obtain ⟨rfl, _, rfl⟩ := e
        have HSK : Hid (seenM M s = seenM l s) := HSS.out k s hs
        have x1 : wr.cell? ⟨b, off + k, none⟩ = some (.int .i64 s) := (hU.out.cell (p := ⟨b, off + k, none⟩) (World.block_lt_of_cell? w4 ⟨b, off + k, none⟩ x0)).trans x0
        have HS1 := hid (seen_good l s a l.length c wr (HV4.out.up hU.out) HLD.out.1)
        rw [HC1.out] at HS1
        clear hs x0
        go_wp2_with fail
        refine HS1.out.mono ?_
        rintro e w5 ⟨a5, n5, c5, rfl, P5, u5⟩
        have x2 : w5.cell? ⟨b, off + k, none⟩ = some (.int .i64 s) := (u5.out.cell (p := ⟨b, off + k, none⟩) (World.block_lt_of_cell? wr ⟨b, off + k, none⟩ x1)).trans x1
        have HS2 := hid (seen_good M s a2 M.length c2 w5 (E4.out.up (up_trans hU.out u5.out)) HLD.out.2)
        rw [HC2.out, HSK.out] at HS2
        clear x1
        go_wp2_with fail
        refine HS2.out.mono ?_
        rintro e w6 ⟨a6, n6, c6, rfl, P6, u6⟩
        have HP := hid (samePairs_self (seenM l s) (.slice a5 n5 c5) (.slice a6 n6 c6) w6 (P5.out.up u6.out) P6.out)
        clear x2
        go_wp2_with fail
        refine (HN.out 0 _).mono ?_
        rintro e w6 ⟨rfl, rfl⟩
        go_wp2_with fail
        refine (HN.out 0 _).mono ?_
        rintro e w6 ⟨rfl, rfl⟩
        go_wp2_with fail
        refine HP.out.mono ?_
        rintro e wx ⟨rfl, d, rfl⟩
        have UF : Hid (Below w4.heap.size w4 (w6.drewN d)) := up_trans (up_trans hU.out (up_trans u5.out u6.out)) (up_drewN _ _)
        go_wp2_with fail
        exact ⟨⟨k + 1, by omega, by go_num, UF⟩, by simp [intOf]; omega⟩
      · have hlt' : ¬ (k : Int) < (S.length : Int) := by omega
        go_wp2_with fail
        go_ret
        exact ⟨rfl, up_trans U4.out hU.out⟩
  · have HTM : Hid (thinM l snaps bot = []) := by unfold Hid thinM; rw [if_neg (fun q => h0 ((thinP_iff l snaps).2 q))]
    rw [HTM.out] at E2
    obtain ⟨a9, c9, e9, _⟩ := E2.out.len
    simp only [Value.slice.injEq] at e9
    obtain ⟨rfl, hn2, rfl⟩ := e9
    simp only [List.length_nil] at hn2
    subst hn2
    have hb1 : (thinP l snaps != 0) = true := by simp [h0]
    have hb2 : (thinP l snaps = 0) = False := by simp [h0]
    clear h0
    go_wp2_with fail
    refine (HN.out _ _).mono ?_
    rintro e wx ⟨rfl, rfl⟩
    go_wp2_with fail
    go_ret
    exact ⟨rfl, U2.out⟩
end Go.Proofs.Ytfnddbglopoghaa
