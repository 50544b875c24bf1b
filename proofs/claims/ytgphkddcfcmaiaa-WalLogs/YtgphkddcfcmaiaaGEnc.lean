/- The document's Encode and Add of layer 6. -/
import Derived.Test.YtgphkddcfcmaiaaWRefChk
import Derived.Test.YtgphkddcfcmaiaaWAdd
import Derived.Test.YtgphkddcfcmaiaaGPut
namespace Go.Proofs.Ytgphkddcfcmaiaa
open Go.RowKit SumPlain
set_option linter.unusedVariables false

theorem refEnc_bad (s : Int) (cs : List Chg) (a : Option Addr) (c : Nat) (w : World) (hv : ChgsR w (.slice a cs.length c) cs) (h : checkOf s cs ≠ 0) :
    Calls Try.prog 12 #[.agg #[.int .i64 s, .slice a cs.length c]] w fun e w' => e = .returned (.tuple #[.slice none 0 0, .int .i64 (checkOf s cs)]) ∧ Below w.heap.size w w' := by
  have HV : Hid (∀ o, ChgsR (w.alloc o) (.slice a cs.length c) cs) := fun o => hv.up (up_alloc w o)
  have hz' : (checkOf s cs == 0) = false := by simp [h]
  clear hv
  go_enter Try.func12, Try.ntmps12
  go_wp2_with fail
  refine (refCheck_any s cs a c _ (HV.out _)).mono ?_
  rintro e w1 ⟨rfl, b1⟩
  have HB : Hid (Below w.heap.size w w1) := up_trans (up_alloc w _) b1
  clear b1
  go_wp2
  go_ret2
  exact ⟨rfl, HB.out⟩

set_option maxHeartbeats 2000000 in
set_option maxRecDepth 100000 in
theorem refEnc_good (s : Int) (cs : List Chg) (a : Option Addr) (c : Nat) (w : World) (hv : ChgsR w (.slice a cs.length c) cs) (h : checkOf s cs = 0) :
    Calls Try.prog 12 #[.agg #[.int .i64 s, .slice a cs.length c]] w fun e w' => ∃ a' n' c', e = .returned (.tuple #[.slice a' n' c', .int .i64 0]) ∧ Hid (OwnB w' w.heap.size (.slice a' n' c') (encOf s cs)) ∧ Hid (Below w.heap.size w w') := by
  obtain ⟨hs, hn, hc⟩ := checkOf_ok h
  have HV : Hid (ChgsR w (.slice a cs.length c) cs) := hv
  have HC : Hid (Calls Try.prog 22 #[.agg #[.int .i64 s, .slice a cs.length c]] (w.alloc (.cells #[.int .i64 s, .slice a cs.length c] 24)) fun e w' => e = .returned (.int .i64 0) ∧ Below (w.alloc (.cells #[.int .i64 s, .slice a cs.length c] 24)).heap.size (w.alloc (.cells #[.int .i64 s, .slice a cs.length c] 24)) w') := by
    have := refCheck_any s cs a c (w.alloc (.cells #[.int .i64 s, .slice a cs.length c] 24)) (hv.up (up_alloc w _))
    rw [h] at this
    exact this
  have HK : Hid (∀ ch ∈ cs, chgErr ch = 0) := hc
  have HN : Hid (cs.length ≤ 64) := hn.2
  have HL1 : Hid ((octets s).length ≤ 9) := (octets_len _ (by omega) (by omega)).2
  have HL2 : Hid ((octets (cs.length : Int)).length ≤ 9) := (octets_len _ (by omega) (by omega)).2
  have HL3 : Hid ((octets s).length + (octets (cs.length : Int)).length ≤ 140737488355328) := by have := HL1.out; have := HL2.out; unfold Hid; omega
  have HX2 : Hid (∀ x ∈ octets (cs.length : Int), 0 ≤ x ∧ x ≤ 255) := octets_octet _ (by omega) (by omega)
  have g3 : IntKind.u64.wrap (cs.length : Int) = (cs.length : Int) := wrap_u64_id _ (by omega) (by omega)
  have g4 : IntKind.u64.wrap s = s := wrap_u64_id _ (by omega) (by omega)
  have HP1 : Hid (∀ w : World, Calls Try.prog 34 #[.int .u64 s] w fun e w' => ∃ v, e = .returned v ∧ OwnB w' w.heap.size v (octets s) ∧ Below w.heap.size w w') := fun w => refPut_any _ w (by omega) (by omega)
  have HP2 : Hid (∀ w : World, Calls Try.prog 34 #[.int .u64 (cs.length : Int)] w fun e w' => ∃ v, e = .returned v ∧ OwnB w' w.heap.size v (octets (cs.length : Int)) ∧ Below w.heap.size w w') := fun w => refPut_any _ w (by omega) (by omega)
  have B0 : Hid ((w.alloc (.cells #[.int .i64 s, .slice a cs.length c] 24)).heap[w.heap.size]? = some (.cells #[.int .i64 s, .slice a cs.length c] 24)) := blk_new w _
  have U0 : Hid (Below w.heap.size w (w.alloc (.cells #[.int .i64 s, .slice a cs.length c] 24))) := up_alloc w _
  have hn64 : cs.length ≤ 64 := hn.2
  clear hv h hs hn hc
  go_enter Try.func12, Try.ntmps12
  go_wp2_with fail
  refine HC.out.mono ?_
  rintro e w1 ⟨rfl, b1⟩
  have B1 : Hid (w1.heap[w.heap.size]? = some (.cells #[.int .i64 s, .slice a cs.length c] 24)) := blk_up B0.out b1
  have U1 : Hid (Below w.heap.size w w1) := up_trans U0.out b1
  have S1 : Hid (w.heap.size + 1 ≤ w1.heap.size) := blk_lt B1.out
  clear b1 B0 U0 HC
  have z0 : w1.cell? ⟨w.heap.size, 0, none⟩ = some (.int .i64 s) := blk_cell B1.out 0 _ rfl
  have z1 : w1.cell? ⟨w.heap.size, 1, none⟩ = some (.slice a cs.length c) := blk_cell B1.out 1 _ rfl
  have HQ1 : Hid (Calls Try.prog 34 #[.int .u64 s] w1.drew fun e w' => ∃ a2 n2 c2, e = .returned (.slice a2 n2 c2) ∧ w'.cell? ⟨w.heap.size, 0, none⟩ = some (.int .i64 s) ∧ w'.cell? ⟨w.heap.size, 1, none⟩ = some (.slice a cs.length c) ∧ Hid (OwnB w' (w.heap.size + 1) (.slice a2 n2 c2) (octets s)) ∧ Hid (w'.heap[w.heap.size]? = some (.cells #[.int .i64 s, .slice a cs.length c] 24)) ∧ Hid (Below w.heap.size w w')) := by
    refine (HP1.out w1.drew).mono ?_
    rintro e w' ⟨v, rfl, ho, hb⟩
    obtain ⟨a2, n2, c2, rfl, _⟩ := own_shape ho
    have hb' : Below w1.heap.size w1 w' := up_trans (up_dr (Below.refl _ _)) hb
    have d := blk_up B1.out hb'
    exact ⟨a2, n2, c2, rfl, blk_cell d 0 _ rfl, blk_cell d 1 _ rfl, OwnB.mono ho S1.out, d, up_trans U1.out hb'⟩
  have HQ2 : Hid (∀ (wx : World) (a2 : Option Addr) (n2 c2 : Nat), OwnB wx (w.heap.size + 1) (.slice a2 n2 c2) (octets s) → wx.heap[w.heap.size]? = some (.cells #[.int .i64 s, .slice a cs.length c] 24) → Below w.heap.size w wx → Calls Try.prog 34 #[.int .u64 (cs.length : Int)] wx fun e w' => ∃ a3 n3 c3, e = .returned (.slice a3 n3 c3) ∧ w'.cell? ⟨w.heap.size, 0, none⟩ = some (.int .i64 s) ∧ w'.cell? ⟨w.heap.size, 1, none⟩ = some (.slice a cs.length c) ∧ Hid (OwnB w' (w.heap.size + 1) (.slice a2 n2 c2) (octets s)) ∧ Hid (Octs w' (.slice a3 n3 c3) (octets (cs.length : Int))) ∧ Hid (w'.heap[w.heap.size]? = some (.cells #[.int .i64 s, .slice a cs.length c] 24)) ∧ Hid (Below w.heap.size w w') ∧ Hid (w.heap.size + 1 ≤ w'.heap.size) ∧
      Hid (∀ w5, w'.grownBy w5 (Value.slice a2 n2 c2).ownBlock → w5.cell? ⟨w.heap.size, 0, none⟩ = some (.int .i64 s) ∧ w5.cell? ⟨w.heap.size, 1, none⟩ = some (.slice a cs.length c) ∧ w5.heap[w.heap.size]? = some (.cells #[.int .i64 s, .slice a cs.length c] 24) ∧ Below w.heap.size w w5)) := by
    intro wx a2 n2 c2 ho hd hu
    refine (HP2.out wx).mono ?_
    rintro e w' ⟨v, rfl, ho3, hb⟩
    obtain ⟨a3, n3, c3, rfl, _⟩ := own_shape ho3
    have d := blk_up hd hb
    have ho' : OwnB w' (w.heap.size + 1) (.slice a2 n2 c2) (octets s) := own_up ho hb
    have hu' := up_trans hu hb
    refine ⟨a3, n3, c3, rfl, blk_cell d 0 _ rfl, blk_cell d 1 _ rfl, ho', Octs.own ho3 HX2.out, d, hu', blk_lt d, fun w5 g5 => ?_⟩
    have d5 := (Keep5.grown ho' g5) _ _ _ _ d (by decide)
    exact ⟨blk_cell d5 0 _ rfl, blk_cell d5 1 _ rfl, d5, hu'.grown g5 hu'.size (fun j hj => by have := (ho'.lt j hj).1; omega)⟩
  clear HP1 HP2
  go_wp2_with fail
  go_region_held3 (fun w' => w'.cell? ⟨w.heap.size, 0, none⟩ = some (.int .i64 s) ∧ w'.cell? ⟨w.heap.size, 1, none⟩ = some (.slice a cs.length c)) (first | with_reducible exact ⟨x0, x1⟩ | with_reducible exact ⟨t0, t1⟩ | with_reducible exact ⟨y0, y1⟩ | with_reducible exact ⟨z0, z1⟩ | (simp [go_sem, z0, z1]; done)) (first
    | (go_at_call 34; with_reducible refine HQ1.out.mono ?_; rintro e w2 ⟨a2, n2, c2, rfl, y0, y1, O2, D2, U2⟩)
    | (go_at_call 34; with_reducible refine (HQ2.out _ _ _ _ O2.out D2.out U2.out).mono ?_; rintro e w3 ⟨a3, n3, c3, rfl, t0, t1, O3, P3, D3, U3, S3, F3⟩)
    | (refine step_append_octs _ (by rfl) _ _ (by rfl) (w.heap.size + 1) (.slice a2 n2 c2) (octets s) (by rfl) O3.out (.slice a3 n3 c3) (octets (cs.length : Int)) (by rfl) P3.out HL3.out S3.out ?_; intro v4 w4 o4 g4'; obtain ⟨x0, x1, D4', U4'⟩ := F3.out _ g4'; obtain ⟨a4, n4, c4, rfl, N4⟩ := own_shape o4; have G4 : Hid (w3.heap.size ≤ w4.heap.size) := g4'.size))
  all_goals
    have O4 : Hid (OwnB w4 (w.heap.size + 1) (.slice a4 n4 c4) (octets s ++ (octets (cs.length : Int) ++ chgsOcts (cs.take 0)))) := by
      unfold Hid; simpa [chgsOcts] using o4
    have D4 : Hid (w4.heap[w.heap.size]? = some (.cells #[.int .i64 s, .slice a cs.length c] 24)) := D4'
    have U4 : Hid (Below w.heap.size w w4) := U4'
    clear o4 g4' D4' U4' O3 P3 D3 U3 S3 F3 O2 D2 U2 B1 U1 S1 HQ1 HQ2 t0 t1 y0 y1 z0 z1 g3 g4
    go_wp2_with fail
    go_loopw [6, 5] (fun i x wr => ∃ (k : Nat) (ax : Option Addr) (nx cx : Nat), k ≤ cs.length ∧ i = .int .i64 k ∧ x = .slice ax nx cx ∧ Hid (OwnB wr (w.heap.size + 1) (.slice ax nx cx) (octets s ++ (octets (cs.length : Int) ++ chgsOcts (cs.take k)))) ∧ Hid (Below w.heap.size w wr) ∧ Hid (wr.heap[w.heap.size]? = some (.cells #[.int .i64 s, .slice a cs.length c] 24))) (fun i _ _ => cs.length - (intOf i).toNat)
    case atStart => exact ⟨0, _, _, _, Nat.zero_le _, rfl, rfl, O4, U4, D4⟩
    case round =>
      clear D4 U4 O4 x0 x1
      obtain ⟨k, ax, nx, cx, hk, rfl, rfl, HO, HB, HD⟩ := hrel
      have p1 : wr.cell? ⟨w.heap.size, 1, none⟩ = some (.slice a cs.length c) := blk_cell HD.out 1 _ rfl
      by_cases hlt : k < cs.length
      · have hlt' : (k : Int) < (cs.length : Int) := by omega
        obtain ⟨b, off, cap, ch, e, q1, q2, hcs, c0, c1, c2⟩ := (HV.out.up HB.out).at k hlt
        simp at e
        obtain ⟨rfl, rfl⟩ := e
        have HT : Hid (cs.take (k + 1) = cs.take k ++ [ch]) := by
          unfold Hid
          rw [List.take_add_one, hcs]
          rfl
        have HE : Hid (chgErr ch = 0) := HK.out ch (List.mem_of_getElem? hcs)
        obtain ⟨_, hk1, hk2, _⟩ := chgErr_ok HE.out
        have HM : Hid ((octets s ++ (octets (cs.length : Int) ++ chgsOcts (cs.take k))).length ≤ 50000) := by
          have h1 := chgsOcts_len (cs.take k) (fun d hd => HK.out d (List.mem_of_mem_take hd))
          have h2 : (cs.take k).length ≤ 64 := by rw [List.length_take]; have := HN.out; omega
          have := HL1.out; have := HL2.out
          unfold Hid
          rw [List.length_append, List.length_append]
          omega
        generalize hL : octets s ++ (octets (cs.length : Int) ++ chgsOcts (cs.take k)) = L at HO HM
        have HQ : Hid (octets s ++ (octets (cs.length : Int) ++ chgsOcts (cs.take (k + 1))) = L ++ chgOcts ch) := by
          unfold Hid
          rw [HT.out, chgsOcts_append, ← hL]
          simp [chgsOcts]
        clear hL hcs HT
        clear HE HL1 HL2 HL3 HX2
        obtain ⟨ck, cd, cv⟩ := ch
        simp only at hk1 hk2 c0 c1 c2
        cases cd with
        | true =>
          have DQ : Hid ((wr.alloc (.cells #[.string ck, .bool true, .string cv] 67)).heap[wr.heap.size]? = some (.cells #[.string ck, .bool true, .string cv] 67)) := blk_new wr _
          have EQ : Hid ((wr.alloc (.cells #[.string ck, .bool true, .string cv] 67)).heap[w.heap.size]? = some (.cells #[.int .i64 s, .slice (some ⟨b, off, none⟩) cs.length c] 24)) := blk_up HD.out (up_alloc _ _)
          have OQ : Hid (OwnB (wr.alloc (.cells #[.string ck, .bool true, .string cv] 67)) (w.heap.size + 1) (.slice ax nx cx) L) := own_up HO.out (up_alloc _ _)
          have UQ : Hid (Below w.heap.size w (wr.alloc (.cells #[.string ck, .bool true, .string cv] 67))) := up_al HB.out _
          clear HO HB HD
          have M5 : Hid (Octs ((wr.alloc (.cells #[.string ck, .bool true, .string cv] 67)).alloc (.cells #[.int .u8 2] 5)) (.slice (some ⟨wr.heap.size + 1, 0, none⟩) 1 1) [2]) := by
            have h := one_made (wr.alloc (.cells #[.string ck, .bool true, .string cv] 67)) 2 (by decide) (by decide)
            have e : (wr.alloc (.cells #[.string ck, .bool true, .string cv] 67)).heap.size = wr.heap.size + 1 := by simp
            rw [e] at h
            exact h
          have HB6 : Hid (L.length + [(2 : Int)].length ≤ 140737488355328) := by have := HM.out; unfold Hid; simp; omega
          have SQ' : Hid (w.heap.size + 1 ≤ ((wr.alloc (.cells #[.string ck, .bool true, .string cv] 67)).alloc (.cells #[.int .u8 2] 5)).heap.size) := le_al (blk_lt EQ.out) _
          go_wp2_with (at_builtin; refine wpList_append_octs _ rfl _ _ rfl (w.heap.size + 1) (.slice ax nx cx) L rfl (own_up OQ.out (up_alloc _ _)) (.slice (some ⟨wr.heap.size + 1, 0, none⟩) 1 1) [2] rfl M5.out HB6.out SQ'.out ?_)
          intro v6 w6 o6 g6
          obtain ⟨a6, n6, c6, rfl, N6⟩ := own_shape o6
          have O6 : Hid (OwnB w6 (w.heap.size + 1) (.slice a6 n6 c6) (L ++ [2])) := o6
          have D6 : Hid (w6.heap[wr.heap.size]? = some (.cells #[.string ck, .bool true, .string cv] 67)) := (Keep5.grown (own_up OQ.out (up_alloc _ _)) g6) _ _ _ _ (blk_up DQ.out (up_alloc _ _)) (by decide)
          have E6 : Hid (w6.heap[w.heap.size]? = some (.cells #[.int .i64 s, .slice (some ⟨b, off, none⟩) cs.length c] 24)) := (Keep5.grown (own_up OQ.out (up_alloc _ _)) g6) _ _ _ _ (blk_up EQ.out (up_alloc _ _)) (by decide)
          have U6 : Hid (Below w.heap.size w w6) := (up_al UQ.out _).grown g6 (up_al UQ.out _).size (fun j hj => by have := (OQ.out.lt j hj).1; omega)
          clear o6 g6 M5 SQ' OQ DQ EQ UQ
          have r7 : w6.cell? ⟨wr.heap.size, 0, none⟩ = some (.string ck) := blk_cell D6.out 0 _ rfl
          have gz7 : IntKind.u64.wrap (ck.size : Int) = (ck.size : Int) := wrap_u64_id _ (by omega) (by omega)
          go_wp2_with fail
          refine (refPut_any (ck.size : Int) w6 (by omega) (by omega)).mono ?_
          rintro e w7 ⟨v7, rfl, o7, b7⟩
          obtain ⟨a7, n7, c7, rfl, N7⟩ := own_shape o7
          have P7 : Hid (Octs w7 (.slice a7 n7 c7) (octets (ck.size : Int))) := Octs.own o7 (octets_octet _ (by omega) (by omega))
          have O7 : Hid (OwnB w7 (w.heap.size + 1) (.slice a6 n6 c6) (L ++ [2])) := own_up O6.out b7
          have D7 : Hid (w7.heap[wr.heap.size]? = some (.cells #[.string ck, .bool true, .string cv] 67)) := blk_up D6.out b7
          have E7 : Hid (w7.heap[w.heap.size]? = some (.cells #[.int .i64 s, .slice (some ⟨b, off, none⟩) cs.length c] 24)) := blk_up E6.out b7
          have U7 : Hid (Below w.heap.size w w7) := up_trans U6.out b7
          have S7 : Hid (w.heap.size + 1 ≤ w7.heap.size) := blk_lt E7.out
          have HB7 : Hid ((L ++ [2]).length + (octets (ck.size : Int)).length ≤ 140737488355328) := by
            have := HM.out; have := (octets_len (ck.size : Int) (by omega) (by omega)).2; have := textOf_len ck (by omega); unfold Hid; simp only [List.length_append, List.length_cons, List.length_nil]; omega
          clear o7 b7 r7
          go_wp2_with (at_builtin; refine wpList_append_octs _ rfl _ _ rfl (w.heap.size + 1) (.slice a6 n6 c6) (L ++ [2]) rfl O7.out (.slice a7 n7 c7) _ rfl P7.out HB7.out S7.out ?_)
          intro v8 w8 o8 g8
          obtain ⟨a8, n8, c8, rfl, N8⟩ := own_shape o8
          have O8 : Hid (OwnB w8 (w.heap.size + 1) (.slice a8 n8 c8) (L ++ [2] ++ octets (ck.size : Int))) := by unfold Hid; simpa [List.append_assoc] using o8
          have D8 : Hid (w8.heap[wr.heap.size]? = some (.cells #[.string ck, .bool true, .string cv] 67)) := (Keep5.grown O7.out g8) _ _ _ _ D7.out (by decide)
          have E8 : Hid (w8.heap[w.heap.size]? = some (.cells #[.int .i64 s, .slice (some ⟨b, off, none⟩) cs.length c] 24)) := (Keep5.grown O7.out g8) _ _ _ _ E7.out (by decide)
          have U8 : Hid (Below w.heap.size w w8) := U7.out.grown g8 U7.out.size (fun j hj => by have := (O7.out.lt j hj).1; omega)
          have S8 : Hid (w.heap.size + 1 ≤ w8.heap.size) := blk_lt E8.out
          have HB8 : Hid ((L ++ [2] ++ octets (ck.size : Int)).length + ck.size ≤ 140737488355328) := by
            have := HM.out; have := (octets_len (ck.size : Int) (by omega) (by omega)).2; have := textOf_len ck (by omega); unfold Hid; simp only [List.length_append, List.length_cons, List.length_nil]; omega
          have r8 : w8.cell? ⟨wr.heap.size, 0, none⟩ = some (.string ck) := blk_cell D8.out 0 _ rfl
          clear o8 g8 O7 D7 E7 U7 P7 S7 gz7
          go_wp2_with (at_builtin; refine wpList_append_str _ rfl _ _ rfl (w.heap.size + 1) (.slice a8 n8 c8) (L ++ [2] ++ octets (ck.size : Int)) rfl O8.out ck rfl HB8.out S8.out ?_)
          intro v9 w9 o9 g9
          obtain ⟨a9, n9, c9, rfl, N9⟩ := own_shape o9
          have O9 : Hid (OwnB w9 (w.heap.size + 1) (.slice a9 n9 c9) (L ++ [2] ++ textOf ck)) := by unfold Hid; rw [show textOf ck = octets (ck.size : Int) ++ nums ck from rfl]; simpa [List.append_assoc] using o9
          have D9 : Hid (w9.heap[wr.heap.size]? = some (.cells #[.string ck, .bool true, .string cv] 67)) := (Keep5.grown O8.out g9) _ _ _ _ D8.out (by decide)
          have E9 : Hid (w9.heap[w.heap.size]? = some (.cells #[.int .i64 s, .slice (some ⟨b, off, none⟩) cs.length c] 24)) := (Keep5.grown O8.out g9) _ _ _ _ E8.out (by decide)
          have U9 : Hid (Below w.heap.size w w9) := U8.out.grown g9 U8.out.size (fun j hj => by have := (O8.out.lt j hj).1; omega)
          clear o9 g9 O8 D8 E8 U8 S8 r8
          have rr : w9.cell? ⟨wr.heap.size, 1, none⟩ = some (.bool true) := blk_cell D9.out 1 _ rfl
          have HQ9 : Hid (OwnB w9 (w.heap.size + 1) (.slice a9 n9 c9) (octets s ++ (octets (cs.length : Int) ++ chgsOcts (cs.take (k + 1))))) := by
            have h1 := O9.out
            unfold Hid
            rw [HQ.out]
            have : L ++ [2] ++ textOf ck = L ++ chgOcts ⟨ck, true, cv⟩ := by simp [chgOcts, kindN]
            rw [← this]
            exact h1
          clear O9 D9
          go_wp2
          exact ⟨⟨k + 1, _, _, _, hlt, by go_num, rfl, HQ9, U9, E9⟩, by simp [intOf]; omega⟩
        | false =>
          have DQ : Hid ((wr.alloc (.cells #[.string ck, .bool false, .string cv] 67)).heap[wr.heap.size]? = some (.cells #[.string ck, .bool false, .string cv] 67)) := blk_new wr _
          have EQ : Hid ((wr.alloc (.cells #[.string ck, .bool false, .string cv] 67)).heap[w.heap.size]? = some (.cells #[.int .i64 s, .slice (some ⟨b, off, none⟩) cs.length c] 24)) := blk_up HD.out (up_alloc _ _)
          have OQ : Hid (OwnB (wr.alloc (.cells #[.string ck, .bool false, .string cv] 67)) (w.heap.size + 1) (.slice ax nx cx) L) := own_up HO.out (up_alloc _ _)
          have UQ : Hid (Below w.heap.size w (wr.alloc (.cells #[.string ck, .bool false, .string cv] 67))) := up_al HB.out _
          clear HO HB HD
          have M5 : Hid (Octs ((wr.alloc (.cells #[.string ck, .bool false, .string cv] 67)).alloc (.cells #[.int .u8 1] 5)) (.slice (some ⟨wr.heap.size + 1, 0, none⟩) 1 1) [1]) := by
            have h := one_made (wr.alloc (.cells #[.string ck, .bool false, .string cv] 67)) 1 (by decide) (by decide)
            have e : (wr.alloc (.cells #[.string ck, .bool false, .string cv] 67)).heap.size = wr.heap.size + 1 := by simp
            rw [e] at h
            exact h
          have HB6 : Hid (L.length + [(1 : Int)].length ≤ 140737488355328) := by have := HM.out; unfold Hid; simp; omega
          have SQ' : Hid (w.heap.size + 1 ≤ ((wr.alloc (.cells #[.string ck, .bool false, .string cv] 67)).alloc (.cells #[.int .u8 1] 5)).heap.size) := le_al (blk_lt EQ.out) _
          go_wp2_with (at_builtin; refine wpList_append_octs _ rfl _ _ rfl (w.heap.size + 1) (.slice ax nx cx) L rfl (own_up OQ.out (up_alloc _ _)) (.slice (some ⟨wr.heap.size + 1, 0, none⟩) 1 1) [1] rfl M5.out HB6.out SQ'.out ?_)
          intro v6 w6 o6 g6
          obtain ⟨a6, n6, c6, rfl, N6⟩ := own_shape o6
          have O6 : Hid (OwnB w6 (w.heap.size + 1) (.slice a6 n6 c6) (L ++ [1])) := o6
          have D6 : Hid (w6.heap[wr.heap.size]? = some (.cells #[.string ck, .bool false, .string cv] 67)) := (Keep5.grown (own_up OQ.out (up_alloc _ _)) g6) _ _ _ _ (blk_up DQ.out (up_alloc _ _)) (by decide)
          have E6 : Hid (w6.heap[w.heap.size]? = some (.cells #[.int .i64 s, .slice (some ⟨b, off, none⟩) cs.length c] 24)) := (Keep5.grown (own_up OQ.out (up_alloc _ _)) g6) _ _ _ _ (blk_up EQ.out (up_alloc _ _)) (by decide)
          have U6 : Hid (Below w.heap.size w w6) := (up_al UQ.out _).grown g6 (up_al UQ.out _).size (fun j hj => by have := (OQ.out.lt j hj).1; omega)
          clear o6 g6 M5 SQ' OQ DQ EQ UQ
          have r7 : w6.cell? ⟨wr.heap.size, 0, none⟩ = some (.string ck) := blk_cell D6.out 0 _ rfl
          have gz7 : IntKind.u64.wrap (ck.size : Int) = (ck.size : Int) := wrap_u64_id _ (by omega) (by omega)
          go_wp2_with fail
          refine (refPut_any (ck.size : Int) w6 (by omega) (by omega)).mono ?_
          rintro e w7 ⟨v7, rfl, o7, b7⟩
          obtain ⟨a7, n7, c7, rfl, N7⟩ := own_shape o7
          have P7 : Hid (Octs w7 (.slice a7 n7 c7) (octets (ck.size : Int))) := Octs.own o7 (octets_octet _ (by omega) (by omega))
          have O7 : Hid (OwnB w7 (w.heap.size + 1) (.slice a6 n6 c6) (L ++ [1])) := own_up O6.out b7
          have D7 : Hid (w7.heap[wr.heap.size]? = some (.cells #[.string ck, .bool false, .string cv] 67)) := blk_up D6.out b7
          have E7 : Hid (w7.heap[w.heap.size]? = some (.cells #[.int .i64 s, .slice (some ⟨b, off, none⟩) cs.length c] 24)) := blk_up E6.out b7
          have U7 : Hid (Below w.heap.size w w7) := up_trans U6.out b7
          have S7 : Hid (w.heap.size + 1 ≤ w7.heap.size) := blk_lt E7.out
          have HB7 : Hid ((L ++ [1]).length + (octets (ck.size : Int)).length ≤ 140737488355328) := by
            have := HM.out; have := (octets_len (ck.size : Int) (by omega) (by omega)).2; have := textOf_len ck (by omega); unfold Hid; simp only [List.length_append, List.length_cons, List.length_nil]; omega
          clear o7 b7 r7
          go_wp2_with (at_builtin; refine wpList_append_octs _ rfl _ _ rfl (w.heap.size + 1) (.slice a6 n6 c6) (L ++ [1]) rfl O7.out (.slice a7 n7 c7) _ rfl P7.out HB7.out S7.out ?_)
          intro v8 w8 o8 g8
          obtain ⟨a8, n8, c8, rfl, N8⟩ := own_shape o8
          have O8 : Hid (OwnB w8 (w.heap.size + 1) (.slice a8 n8 c8) (L ++ [1] ++ octets (ck.size : Int))) := by unfold Hid; simpa [List.append_assoc] using o8
          have D8 : Hid (w8.heap[wr.heap.size]? = some (.cells #[.string ck, .bool false, .string cv] 67)) := (Keep5.grown O7.out g8) _ _ _ _ D7.out (by decide)
          have E8 : Hid (w8.heap[w.heap.size]? = some (.cells #[.int .i64 s, .slice (some ⟨b, off, none⟩) cs.length c] 24)) := (Keep5.grown O7.out g8) _ _ _ _ E7.out (by decide)
          have U8 : Hid (Below w.heap.size w w8) := U7.out.grown g8 U7.out.size (fun j hj => by have := (O7.out.lt j hj).1; omega)
          have S8 : Hid (w.heap.size + 1 ≤ w8.heap.size) := blk_lt E8.out
          have HB8 : Hid ((L ++ [1] ++ octets (ck.size : Int)).length + ck.size ≤ 140737488355328) := by
            have := HM.out; have := (octets_len (ck.size : Int) (by omega) (by omega)).2; have := textOf_len ck (by omega); unfold Hid; simp only [List.length_append, List.length_cons, List.length_nil]; omega
          have r8 : w8.cell? ⟨wr.heap.size, 0, none⟩ = some (.string ck) := blk_cell D8.out 0 _ rfl
          clear o8 g8 O7 D7 E7 U7 P7 S7 gz7
          go_wp2_with (at_builtin; refine wpList_append_str _ rfl _ _ rfl (w.heap.size + 1) (.slice a8 n8 c8) (L ++ [1] ++ octets (ck.size : Int)) rfl O8.out ck rfl HB8.out S8.out ?_)
          intro v9 w9 o9 g9
          obtain ⟨a9, n9, c9, rfl, N9⟩ := own_shape o9
          have O9 : Hid (OwnB w9 (w.heap.size + 1) (.slice a9 n9 c9) (L ++ [1] ++ textOf ck)) := by unfold Hid; rw [show textOf ck = octets (ck.size : Int) ++ nums ck from rfl]; simpa [List.append_assoc] using o9
          have D9 : Hid (w9.heap[wr.heap.size]? = some (.cells #[.string ck, .bool false, .string cv] 67)) := (Keep5.grown O8.out g9) _ _ _ _ D8.out (by decide)
          have E9 : Hid (w9.heap[w.heap.size]? = some (.cells #[.int .i64 s, .slice (some ⟨b, off, none⟩) cs.length c] 24)) := (Keep5.grown O8.out g9) _ _ _ _ E8.out (by decide)
          have U9 : Hid (Below w.heap.size w w9) := U8.out.grown g9 U8.out.size (fun j hj => by have := (O8.out.lt j hj).1; omega)
          clear o9 g9 O8 D8 E8 U8 S8 r8
          have rr : w9.cell? ⟨wr.heap.size, 1, none⟩ = some (.bool false) := blk_cell D9.out 1 _ rfl
          have r10 : w9.cell? ⟨wr.heap.size, 2, none⟩ = some (.string cv) := blk_cell D9.out 2 _ rfl
          have gz10 : IntKind.u64.wrap (cv.size : Int) = (cv.size : Int) := wrap_u64_id _ (by omega) (by omega)
          go_wp2_with fail
          refine (refPut_any (cv.size : Int) w9 (by omega) (by omega)).mono ?_
          rintro e w10 ⟨v10, rfl, o10, b10⟩
          obtain ⟨a10, n10, c10, rfl, N10⟩ := own_shape o10
          have P10 : Hid (Octs w10 (.slice a10 n10 c10) (octets (cv.size : Int))) := Octs.own o10 (octets_octet _ (by omega) (by omega))
          have O10 : Hid (OwnB w10 (w.heap.size + 1) (.slice a9 n9 c9) (L ++ [1] ++ textOf ck)) := own_up O9.out b10
          have D10 : Hid (w10.heap[wr.heap.size]? = some (.cells #[.string ck, .bool false, .string cv] 67)) := blk_up D9.out b10
          have E10 : Hid (w10.heap[w.heap.size]? = some (.cells #[.int .i64 s, .slice (some ⟨b, off, none⟩) cs.length c] 24)) := blk_up E9.out b10
          have U10 : Hid (Below w.heap.size w w10) := up_trans U9.out b10
          have S10 : Hid (w.heap.size + 1 ≤ w10.heap.size) := blk_lt E10.out
          have HB10 : Hid ((L ++ [1] ++ textOf ck).length + (octets (cv.size : Int)).length ≤ 140737488355328) := by
            have := HM.out; have := (octets_len (cv.size : Int) (by omega) (by omega)).2; have := textOf_len ck (by omega); unfold Hid; simp only [List.length_append, List.length_cons, List.length_nil]; omega
          clear o10 b10 r10
          go_wp2_with (at_builtin; refine wpList_append_octs _ rfl _ _ rfl (w.heap.size + 1) (.slice a9 n9 c9) (L ++ [1] ++ textOf ck) rfl O10.out (.slice a10 n10 c10) _ rfl P10.out HB10.out S10.out ?_)
          intro v11 w11 o11 g11
          obtain ⟨a11, n11, c11, rfl, N11⟩ := own_shape o11
          have O11 : Hid (OwnB w11 (w.heap.size + 1) (.slice a11 n11 c11) (L ++ [1] ++ textOf ck ++ octets (cv.size : Int))) := by unfold Hid; simpa [List.append_assoc] using o11
          have D11 : Hid (w11.heap[wr.heap.size]? = some (.cells #[.string ck, .bool false, .string cv] 67)) := (Keep5.grown O10.out g11) _ _ _ _ D10.out (by decide)
          have E11 : Hid (w11.heap[w.heap.size]? = some (.cells #[.int .i64 s, .slice (some ⟨b, off, none⟩) cs.length c] 24)) := (Keep5.grown O10.out g11) _ _ _ _ E10.out (by decide)
          have U11 : Hid (Below w.heap.size w w11) := U10.out.grown g11 U10.out.size (fun j hj => by have := (O10.out.lt j hj).1; omega)
          have S11 : Hid (w.heap.size + 1 ≤ w11.heap.size) := blk_lt E11.out
          have HB11 : Hid ((L ++ [1] ++ textOf ck ++ octets (cv.size : Int)).length + cv.size ≤ 140737488355328) := by
            have := HM.out; have := (octets_len (cv.size : Int) (by omega) (by omega)).2; have := textOf_len ck (by omega); unfold Hid; simp only [List.length_append, List.length_cons, List.length_nil]; omega
          have r11 : w11.cell? ⟨wr.heap.size, 2, none⟩ = some (.string cv) := blk_cell D11.out 2 _ rfl
          clear o11 g11 O10 D10 E10 U10 P10 S10 gz10
          go_wp2_with (at_builtin; refine wpList_append_str _ rfl _ _ rfl (w.heap.size + 1) (.slice a11 n11 c11) (L ++ [1] ++ textOf ck ++ octets (cv.size : Int)) rfl O11.out cv rfl HB11.out S11.out ?_)
          intro v12 w12 o12 g12
          obtain ⟨a12, n12, c12, rfl, N12⟩ := own_shape o12
          have O12 : Hid (OwnB w12 (w.heap.size + 1) (.slice a12 n12 c12) (L ++ [1] ++ textOf ck ++ textOf cv)) := by unfold Hid; rw [show textOf cv = octets (cv.size : Int) ++ nums cv from rfl]; simpa [List.append_assoc] using o12
          have D12 : Hid (w12.heap[wr.heap.size]? = some (.cells #[.string ck, .bool false, .string cv] 67)) := (Keep5.grown O11.out g12) _ _ _ _ D11.out (by decide)
          have E12 : Hid (w12.heap[w.heap.size]? = some (.cells #[.int .i64 s, .slice (some ⟨b, off, none⟩) cs.length c] 24)) := (Keep5.grown O11.out g12) _ _ _ _ E11.out (by decide)
          have U12 : Hid (Below w.heap.size w w12) := U11.out.grown g12 U11.out.size (fun j hj => by have := (O11.out.lt j hj).1; omega)
          clear o12 g12 O11 D11 E11 U11 S11 r11
          have HQ9 : Hid (OwnB w12 (w.heap.size + 1) (.slice a12 n12 c12) (octets s ++ (octets (cs.length : Int) ++ chgsOcts (cs.take (k + 1))))) := by
            have h1 := O12.out
            unfold Hid
            rw [HQ.out]
            have : L ++ [1] ++ textOf ck ++ textOf cv = L ++ chgOcts ⟨ck, false, cv⟩ := by simp [chgOcts, kindN]
            rw [← this]
            exact h1
          clear O12 D12
          go_wp2
          exact ⟨⟨k + 1, _, _, _, hlt, by go_num, rfl, HQ9, U12, E12⟩, by simp [intOf]; omega⟩
      · have hlt' : ¬ (k : Int) < (cs.length : Int) := by omega
        have HQ2 : Hid (OwnB wr w.heap.size (.slice ax nx cx) (encOf s cs)) := by
          have h1 := HO.out
          rw [List.take_of_length_le (by omega)] at h1
          exact OwnB.mono h1 (by omega)
        clear HO
        go_wp2
        go_ret2
        exact ⟨_, _, _, rfl, HQ2, HB⟩

theorem refAdd_bad (s : Int) (cs : List Chg) (a : Option Addr) (c : Nat) (al : Option Addr) (nl cl : Nat) (w : World) (hv : ChgsR w (.slice a cs.length c) cs) (h : checkOf s cs ≠ 0) :
    Calls Try.prog 25 #[.slice al nl cl, .agg #[.int .i64 s, .slice a cs.length c]] w fun e w' => e = .returned (.tuple #[.slice none 0 0, .int .i64 (checkOf s cs)]) ∧ Below w.heap.size w w' := by
  have HV : Hid (∀ o, ChgsR (w.alloc o) (.slice a cs.length c) cs) := fun o => hv.up (up_alloc w o)
  have hz' : (checkOf s cs == 0) = false := by simp [h]
  clear hv
  go_enter Try.func25, Try.ntmps25
  go_wp2_with fail
  refine (refEnc_bad s cs a c _ (HV.out _) h).mono ?_
  rintro e w1 ⟨rfl, b1⟩
  have HB : Hid (Below w.heap.size w w1) := up_trans (up_alloc w _) b1
  clear b1
  go_wp2
  go_ret2
  exact ⟨rfl, HB.out⟩

set_option maxHeartbeats 1000000 in
theorem refAdd_good (s : Int) (cs : List Chg) (a : Option Addr) (c : Nat) (l : List Int) (al : Option Addr) (cl : Nat) (w : World) (hv : ChgsR w (.slice a cs.length c) cs) (hl : Octs w (.slice al l.length cl) l) (hb : l.length ≤ 140737488355328) (h : checkOf s cs = 0) :
    Calls Try.prog 25 #[.slice al l.length cl, .agg #[.int .i64 s, .slice a cs.length c]] w fun e w' => ∃ a' n' c', e = .returned (.tuple #[.slice a' n' c', .int .i64 0]) ∧ Hid (OwnB w' w.heap.size (.slice a' n' c') (l ++ frameOf 1 (encOf s cs))) ∧ Hid (Below w.heap.size w w') := by
  have HV : Hid (∀ o, ChgsR (w.alloc o) (.slice a cs.length c) cs) := fun o => hv.up (up_alloc w o)
  have HL : Hid (Octs w (.slice al l.length cl) l) := hl
  have HX : Hid (∀ x ∈ encOf s cs, 0 ≤ x ∧ x ≤ 255) := encOf_octet s cs h
  have HN : Hid ((encOf s cs).length ≤ 65536) := encOf_len s cs h
  have HF : Hid ((frameOf 1 (encOf s cs)).length ≤ 70000 ∧ l.length ≤ 140737488355328) := ⟨frame_bound s cs h, hb⟩
  have HFX : Hid (∀ x ∈ frameOf 1 (encOf s cs), 0 ≤ x ∧ x ≤ 255) := frame_octs s cs h
  clear hv hl hb
  go_enter Try.func25, Try.ntmps25
  go_wp2_with fail
  refine (refEnc_good s cs a c _ (HV.out _) h).mono ?_
  rintro e w1 ⟨a1, n1, c1, rfl, O1, B1⟩
  have U1 : Hid (Below w.heap.size w w1) := up_trans (up_alloc w _) B1.out
  have P1 : Hid (Octs w1 (.slice a1 n1 c1) (encOf s cs)) := Octs.own O1.out HX.out
  have hn1 : n1 = (encOf s cs).length := by
    obtain ⟨x, y, e, _⟩ := P1.out.len
    simp at e
    exact e.2.1
  subst hn1
  clear O1 B1 h HV
  go_wp2_with fail
  refine (rput_good 1 a1 c1 (encOf s cs) w1 P1.out (by decide) (by decide) HN.out).mono ?_
  rintro e w2 ⟨v2, rfl, o2, b2⟩
  obtain ⟨a2, n2, c2, rfl, N2⟩ := own_shape o2
  have U2 : Hid (Below w.heap.size w w2) := up_trans U1.out b2
  have P2 : Hid (Octs w2 (.slice a2 n2 c2) (frameOf 1 (encOf s cs))) := Octs.own o2 HFX.out
  have L2 : Hid (Octs w2 (.slice al l.length cl) l) := HL.out.up U2.out
  clear o2 b2 P1 U1 HN HX
  go_wp2_with fail
  refine (copied_any l _ w2 L2.out HF.out.2).mono ?_
  rintro e w3 ⟨v3, rfl, o3, b3⟩
  obtain ⟨a3, n3, c3, rfl, N3⟩ := own_shape o3
  have O3 : Hid (OwnB w3 w2.heap.size (.slice a3 n3 c3) l) := o3
  have P3 : Hid (Octs w3 (.slice a2 n2 c2) (frameOf 1 (encOf s cs))) := P2.out.up b3
  have S3 : Hid (w2.heap.size ≤ w3.heap.size) := b3.size
  have U3 : Hid (Below w.heap.size w w3) := up_trans U2.out b3
  have S2 : Hid (w.heap.size ≤ w2.heap.size) := U2.out.size
  clear o3 b3 P2 L2
  go_wp2_with (at_builtin; refine wpList_append_octs_wide _ rfl _ _ rfl w2.heap.size _ l rfl O3.out _ _ rfl P3.out ?c2 S3.out ?_)
  case c2 => have := HF.out; omega
  intro v4 w4 o4 g4
  obtain ⟨a4, n4, c4, rfl, N4⟩ := own_shape o4
  have O4 : Hid (OwnB w4 w.heap.size (.slice a4 n4 c4) (l ++ frameOf 1 (encOf s cs))) := OwnB.mono o4 S2.out
  have U4 : Hid (Below w.heap.size w w4) := U3.out.grown g4 (by have := S2.out; have := S3.out; omega) (fun j hj => by have := (O3.out.lt j hj).1; have := S2.out; omega)
  clear o4 g4
  go_wp2
  go_ret2
  exact ⟨_, _, _, rfl, O4, U4⟩
end Go.Proofs.Ytgphkddcfcmaiaa
