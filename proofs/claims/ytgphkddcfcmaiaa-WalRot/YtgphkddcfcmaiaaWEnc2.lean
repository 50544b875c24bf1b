/- Encode of layer 6: the error, or the batch's octets in memory of the call's own. -/
import Derived.Test.YtgphkddcfcmaiaaWEnc
namespace Go.Proofs.Ytgphkddcfcmaiaa
open Go.RowKit SumPlain
set_option linter.unusedVariables false

theorem encode_bad (s : Int) (cs : List Chg) (a : Option Addr) (c : Nat) (w : World) (hv : ChgsR w (.slice a cs.length c) cs) (h : checkOf s cs ≠ 0) :
    Calls Try.prog 11 #[.agg #[.int .i64 s, .slice a cs.length c]] w fun e w' => e = .returned (.tuple #[.slice none 0 0, .int .i64 (checkOf s cs)]) ∧ Below w.heap.size w w' := by
  have HV : Hid (∀ o, ChgsR (w.alloc o) (.slice a cs.length c) cs) := fun o => hv.up (up_alloc w o)
  have hz' : (checkOf s cs == 0) = false := by simp [h]
  clear hv
  go_enter Try.func11, Try.ntmps11
  go_wp2_with fail
  refine (check_any s cs a c _ (HV.out _)).mono ?_
  rintro e w1 ⟨rfl, b1⟩
  have HB : Hid (Below w.heap.size w w1) := up_trans (up_alloc w _) b1
  clear b1
  go_wp2
  go_ret2
  exact ⟨rfl, HB.out⟩

theorem chgsOcts_append : ∀ (a b : List Chg), chgsOcts (a ++ b) = chgsOcts a ++ chgsOcts b
  | [], b => rfl
  | c :: r, b => by simp only [List.cons_append, chgsOcts, chgsOcts_append r b, List.append_assoc]

set_option maxHeartbeats 1000000 in
set_option maxRecDepth 100000 in
theorem encode_good (s : Int) (cs : List Chg) (a : Option Addr) (c : Nat) (w : World) (hv : ChgsR w (.slice a cs.length c) cs) (h : checkOf s cs = 0) :
    Calls Try.prog 11 #[.agg #[.int .i64 s, .slice a cs.length c]] w fun e w' => ∃ a' n' c', e = .returned (.tuple #[.slice a' n' c', .int .i64 0]) ∧ Hid (OwnB w' w.heap.size (.slice a' n' c') (encOf s cs)) ∧ Hid (Below w.heap.size w w') := by
  obtain ⟨hs, hn, hc⟩ := checkOf_ok h
  have HV : Hid (ChgsR w (.slice a cs.length c) cs) := hv
  have HC : Hid (Calls Try.prog 21 #[.agg #[.int .i64 s, .slice a cs.length c]] (w.alloc (.cells #[.int .i64 s, .slice a cs.length c] 26)) fun e w' => e = .returned (.int .i64 0) ∧ Below (w.alloc (.cells #[.int .i64 s, .slice a cs.length c] 26)).heap.size (w.alloc (.cells #[.int .i64 s, .slice a cs.length c] 26)) w') := by
    have := check_any s cs a c (w.alloc (.cells #[.int .i64 s, .slice a cs.length c] 26)) (hv.up (up_alloc w _))
    rw [h] at this
    exact this
  have HK : Hid (∀ ch ∈ cs, chgErr ch = 0) := hc
  have HN : Hid (cs.length ≤ 64) := hn.2
  have HL1 : Hid ((octets s).length ≤ 9) := (octets_len _ (by omega) (by omega)).2
  have HL2 : Hid ((octets (cs.length : Int)).length ≤ 9) := (octets_len _ (by omega) (by omega)).2
  have HX2 : Hid (∀ x ∈ octets (cs.length : Int), 0 ≤ x ∧ x ≤ 255) := octets_octet _ (by omega) (by omega)
  have g3 : IntKind.u64.wrap (cs.length : Int) = (cs.length : Int) := wrap_u64_id _ (by omega) (by omega)
  have g4 : IntKind.u64.wrap s = s := wrap_u64_id _ (by omega) (by omega)
  have HP1 : Hid (∀ w : World, Calls Try.prog 31 #[.int .u64 s] w fun e w' => ∃ v, e = .returned v ∧ OwnB w' w.heap.size v (octets s) ∧ Below w.heap.size w w') := fun w => put_any _ w (by omega) (by omega)
  have HP2 : Hid (∀ w : World, Calls Try.prog 31 #[.int .u64 (cs.length : Int)] w fun e w' => ∃ v, e = .returned v ∧ OwnB w' w.heap.size v (octets (cs.length : Int)) ∧ Below w.heap.size w w') := fun w => put_any _ w (by omega) (by omega)
  have B0 : Hid ((w.alloc (.cells #[.int .i64 s, .slice a cs.length c] 26)).heap[w.heap.size]? = some (.cells #[.int .i64 s, .slice a cs.length c] 26)) := blk_new w _
  have U0 : Hid (Below w.heap.size w (w.alloc (.cells #[.int .i64 s, .slice a cs.length c] 26))) := up_alloc w _
  have S0 : Hid ((w.alloc (.cells #[.int .i64 s, .slice a cs.length c] 26)).heap.size = w.heap.size + 1) := by unfold Hid; simp
  have hn64 : cs.length ≤ 64 := hn.2
  clear hv h hs hn hc
  go_enter Try.func11, Try.ntmps11
  go_wp2_with fail
  refine HC.out.mono ?_
  rintro e w1 ⟨rfl, b1⟩
  have B1 : Hid (w1.heap[w.heap.size]? = some (.cells #[.int .i64 s, .slice a cs.length c] 26)) := blk_up B0.out b1
  have U1 : Hid (Below w.heap.size w w1) := up_trans U0.out b1
  have S1 : Hid (w.heap.size + 1 ≤ w1.heap.size) := by have := b1.size; have := S0.out; unfold Hid; omega
  clear b1 B0 U0 S0 HC
  have p0 := blk_cell B1.out 0 _ rfl
  have p1 := blk_cell B1.out 1 _ rfl
  go_wp2_with fail
  refine (HP1.out w1).mono ?_
  rintro e w2 ⟨v2, rfl, o2, b2⟩
  obtain ⟨a2, n2, c2, rfl, N2⟩ := own_shape o2
  have O2 : Hid (OwnB w2 (w.heap.size + 1) (.slice a2 n2 c2) (octets s)) := OwnB.mono o2 S1.out
  have B2 : Hid (w2.heap[w.heap.size]? = some (.cells #[.int .i64 s, .slice a cs.length c] 26)) := blk_up B1.out b2
  have U2 : Hid (Below w.heap.size w w2) := up_trans U1.out b2
  have S2 : Hid (w.heap.size + 1 ≤ w2.heap.size) := Nat.le_trans S1.out b2.size
  clear b2 o2 p0 p1 B1 U1 S1
  have p0 := blk_cell B2.out 0 _ rfl
  have p1 := blk_cell B2.out 1 _ rfl
  go_wp2_with fail
  refine (HP2.out w2).mono ?_
  rintro e w3 ⟨v3, rfl, o3, b3⟩
  obtain ⟨a3, n3, c3, rfl, N3⟩ := own_shape o3
  have O3 : Hid (Octs w3 (.slice a3 n3 c3) (octets (cs.length : Int))) := Octs.own o3 HX2.out
  have V3 : Hid (OwnB w3 (w.heap.size + 1) (.slice a2 n2 c2) (octets s)) := own_up O2.out b3
  have B3 : Hid (w3.heap[w.heap.size]? = some (.cells #[.int .i64 s, .slice a cs.length c] 26)) := blk_up B2.out b3
  have U3 : Hid (Below w.heap.size w w3) := up_trans U2.out b3
  have S3 : Hid (w.heap.size + 1 ≤ w3.heap.size) := Nat.le_trans S2.out b3.size
  clear b3 o3 p0 p1 B2 U2 S2 O2
  go_wp2_with (at_builtin; refine wpList_append_octs _ rfl _ _ rfl (w.heap.size + 1) _ _ rfl V3.out _ _ rfl O3.out ?c1 S3.out ?_)
  case c1 => have := HL1.out; have := HL2.out; omega
  intro v4 w4 o4 g4'
  obtain ⟨a4, n4, c4, rfl, N4⟩ := own_shape o4
  have O4 : Hid (OwnB w4 (w.heap.size + 1) (.slice a4 n4 c4) (octets s ++ (octets (cs.length : Int) ++ chgsOcts (cs.take 0)))) := by
    unfold Hid; simpa [chgsOcts] using o4
  have B4 : Hid (w4.heap[w.heap.size]? = some (.cells #[.int .i64 s, .slice a cs.length c] 26)) := (Keep5.grown V3.out g4') _ _ _ _ B3.out (by decide)
  have U4 : Hid (Below w.heap.size w w4) := U3.out.grown g4' (by have := S3.out; omega) (fun j hj => by have := (V3.out.lt j hj).1; omega)
  have S4 : Hid (w.heap.size + 1 ≤ w4.heap.size) := Nat.le_trans S3.out g4'.size
  clear o4 g4' V3 O3 B3 U3 S3
  have p0 := blk_cell B4.out 0 _ rfl
  have p1 := blk_cell B4.out 1 _ rfl
  go_wp2
  go_loopw [27, 5] (fun i x wr => ∃ (k : Nat) (ax : Option Addr) (nx cx : Nat), k ≤ cs.length ∧ i = .int .i64 k ∧ x = .slice ax nx cx ∧ Hid (OwnB wr (w.heap.size + 1) (.slice ax nx cx) (octets s ++ (octets (cs.length : Int) ++ chgsOcts (cs.take k)))) ∧ Hid (Below w.heap.size w wr) ∧ Hid (w.heap.size + 1 ≤ wr.heap.size)) (fun i _ _ => cs.length - (intOf i).toNat)
  case atStart => exact ⟨0, _, _, _, Nat.zero_le _, rfl, rfl, O4, U4, S4⟩
  case round =>
    clear p0 p1 B4 U4 S4 O4 HP1 HP2 g3 g4
    obtain ⟨k, ax, nx, cx, hk, rfl, rfl, HO, HB, HS⟩ := hrel
    by_cases hlt : k < cs.length
    · have hlt' : (k : Int) < (cs.length : Int) := by omega
      obtain ⟨b, off, cap, ch, e, q1, q2, hcs, c0, c1, c2⟩ := (HV.out.up HB.out).at k hlt
      simp at e
      obtain ⟨rfl, rfl⟩ := e
      have HT : Hid (cs.take (k + 1) = cs.take k ++ [ch]) := by
        unfold Hid
        rw [List.take_add_one, hcs]
        rfl
      have HE : Hid (chgErr ch = 0) := HK.out ch (List.mem_of_getElem? hcs)
      have HM : Hid ((octets s ++ (octets (cs.length : Int) ++ chgsOcts (cs.take k))).length ≤ 50000) := by
        have h1 := chgsOcts_len (cs.take k) (fun d hd => HK.out d (List.mem_of_mem_take hd))
        have h2 : (cs.take k).length ≤ 64 := by rw [List.length_take]; have := HN.out; omega
        have := HL1.out; have := HL2.out
        unfold Hid
        rw [List.length_append, List.length_append]
        omega
      generalize hL : octets s ++ (octets (cs.length : Int) ++ chgsOcts (cs.take k)) = L at HO HM
      have HQ : Hid (octets s ++ (octets (cs.length : Int) ++ chgsOcts (cs.take (k + 1))) = L ++ chgOcts ch) := by
        unfold Hid
        rw [HT.out, chgsOcts_append, ← hL]
        simp [chgsOcts]
      clear hL hcs HT
      have gk : IntKind.u8.wrap (kindN ch) = kindN ch := by have := kindN_octet ch; simp [IntKind.wrap, IntKind.bits, IntKind.signed]; omega
      have D1 : Hid ((wr.alloc (.cells #[.string ch.key, .bool ch.del, .string ch.val] 67)).heap[wr.heap.size]? = some (.cells #[.string ch.key, .bool ch.del, .string ch.val] 67)) := blk_new wr _
      have HO1 : Hid (OwnB (wr.alloc (.cells #[.string ch.key, .bool ch.del, .string ch.val] 67)) (w.heap.size + 1) (.slice ax nx cx) L) := own_up HO.out (up_alloc _ _)
      have HB1 : Hid (Below w.heap.size w (wr.alloc (.cells #[.string ch.key, .bool ch.del, .string ch.val] 67))) := up_trans HB.out (up_alloc _ _)
      have HS1 : Hid (w.heap.size + 1 ≤ (wr.alloc (.cells #[.string ch.key, .bool ch.del, .string ch.val] 67)).heap.size) := le_al HS.out _
      go_wp2_with fail
      generalize wr.alloc (.cells #[.string ch.key, .bool ch.del, .string ch.val] 67) = wa at *
      refine (kindOf_any ch _).mono ?_
      rintro e w5 ⟨rfl, b5⟩
      have D5 : Hid (w5.heap[wr.heap.size]? = some (.cells #[.string ch.key, .bool ch.del, .string ch.val] 67)) := blk_up D1.out b5
      have O5 : Hid (OwnB w5 (w.heap.size + 1) (.slice ax nx cx) L) := own_up HO1.out b5
      have U5 : Hid (Below w.heap.size w w5) := up_trans HB1.out b5
      have S5 : Hid (w.heap.size + 1 ≤ w5.heap.size) := Nat.le_trans HS1.out b5.size
      have M5 : Hid (Octs (w5.alloc (.cells #[.int .u8 (kindN ch)] 5)) (.slice (some ⟨w5.heap.size, 0, none⟩) 1 1) [kindN ch]) := one_made w5 _ (by have := kindN_octet ch; omega) (by have := kindN_octet ch; omega)
      clear b5 D1 HO1 HB1 HS1 HO HB HS c0 c1 c2
      go_wp2_with (at_builtin; refine wpList_append_octs _ rfl _ _ rfl (w.heap.size + 1) _ _ rfl (own_up O5.out (up_alloc _ _)) _ [kindN ch] rfl M5.out ?c2 (le_al S5.out _) ?_)
      case c2 => have := HM.out; simp; omega
      intro v6 w6 o6 g6
      obtain ⟨a6, n6, c6, rfl, N6⟩ := own_shape o6
      have O6 : Hid (OwnB w6 (w.heap.size + 1) (.slice a6 n6 c6) (L ++ [kindN ch])) := o6
      have D6 : Hid (w6.heap[wr.heap.size]? = some (.cells #[.string ch.key, .bool ch.del, .string ch.val] 67)) := (Keep5.grown (own_up O5.out (up_alloc _ _)) g6) _ _ _ _ (blk_up D5.out (up_alloc _ _)) (by decide)
      have U6 : Hid (Below w.heap.size w w6) := (up_trans U5.out (up_alloc _ _)).grown g6 (by have := S5.out; simp; omega) (fun j hj => by have := ((own_up O5.out (up_alloc w5 (.cells #[.int .u8 (kindN ch)] 5))).lt j hj).1; omega)
      have S6 : Hid (w.heap.size + 1 ≤ w6.heap.size) := Nat.le_trans (le_al S5.out _) g6.size
      clear o6 g6 O5 D5 U5 S5 M5
      have r0 := blk_cell D6.out 0 _ rfl
      go_wp2_with fail
      refine (appText_any _ _ ch.key w6 _ O6.out S6.out (by have := (chgErr_ok HE.out).2.1; omega) (by have := HM.out; simp; omega)).mono ?_
      rintro e w7 ⟨a7, n7, c7, rfl, O7, B7, K7⟩
      have D7 : Hid (w7.heap[wr.heap.size]? = some (.cells #[.string ch.key, .bool ch.del, .string ch.val] 67)) := K7.out _ _ _ _ D6.out (by decide)
      have U7 : Hid (Below w.heap.size w w7) := U6.out.trans (B7.out.mono (by omega))
      have S7 : Hid (w.heap.size + 1 ≤ w7.heap.size) := Nat.le_trans S6.out B7.out.size
      clear r0 O6 D6 U6 S6 B7 K7
      have r1 := blk_cell D7.out 1 _ rfl
      have r2 := blk_cell D7.out 2 _ rfl
      cases hd : ch.del with
      | true =>
        rw [hd] at r1
        have HQ2 : Hid (OwnB w7 (w.heap.size + 1) (.slice a7 n7 c7) (octets s ++ (octets (cs.length : Int) ++ chgsOcts (cs.take (k + 1))))) := by
          have h1 := O7.out
          unfold Hid
          rw [HQ.out]
          have : L ++ [kindN ch] ++ textOf ch.key = L ++ chgOcts ch := by
            unfold chgOcts
            rw [hd]
            simp
          rw [← this]
          exact h1
        clear O7 D7 HQ
        go_wp2
        exact ⟨⟨k + 1, _, _, _, hlt, by go_num, rfl, HQ2, U7, S7⟩, by simp [intOf]; omega⟩
      | false =>
        rw [hd] at r1
        go_wp2_with fail
        refine (appText_any _ _ ch.val w7 _ O7.out S7.out (by have := (chgErr_ok HE.out).2.2.1; omega) (by have := HM.out; have := textOf_len ch.key (by have := (chgErr_ok HE.out).2.1; omega); have := (chgErr_ok HE.out).2.1; simp; omega)).mono ?_
        rintro e w8 ⟨a8, n8, c8, rfl, O8, B8, K8⟩
        have U8 : Hid (Below w.heap.size w w8) := U7.out.trans (B8.out.mono (by omega))
        have S8 : Hid (w.heap.size + 1 ≤ w8.heap.size) := Nat.le_trans S7.out B8.out.size
        have HQ2 : Hid (OwnB w8 (w.heap.size + 1) (.slice a8 n8 c8) (octets s ++ (octets (cs.length : Int) ++ chgsOcts (cs.take (k + 1))))) := by
          have h1 := O8.out
          unfold Hid
          rw [HQ.out]
          have : L ++ [kindN ch] ++ textOf ch.key ++ textOf ch.val = L ++ chgOcts ch := by
            unfold chgOcts
            rw [hd]
            simp
          rw [← this]
          exact h1
        clear O7 D7 O8 HQ K8 B8 r1 r2
        go_wp2
        exact ⟨⟨k + 1, _, _, _, hlt, by go_num, rfl, HQ2, U8, S8⟩, by simp [intOf]; omega⟩
    · have hlt' : ¬ (k : Int) < (cs.length : Int) := by omega
      have HQ2 : Hid (OwnB wr w.heap.size (.slice ax nx cx) (encOf s cs)) := by
        have h1 := HO.out
        rw [List.take_of_length_le (by omega)] at h1
        exact OwnB.mono h1 (by omega)
      clear HO
      go_wp2
      go_ret2
      exact ⟨_, _, _, rfl, HQ2, HB⟩
end Go.Proofs.Ytgphkddcfcmaiaa
