/- The walk of the document's Build of layer 10. -/
import Derived.Test.YtekoniaobmapdabG27
import Derived.Test.YtekoniaobmapdabG14
import Derived.Lib.SlBytesConst
namespace Go.Proofs.Ytekoniaobmapdab
open Go.RowKit SumPlain
set_option linter.unusedVariables false
set_option linter.unusedSimpArgs false

theorem refPutO (n : Int) (h0 : 0 ≤ n) (h1 : n ≤ 18446744073709551615) (W : World) : Calls Try.prog 18 #[.int .u64 n] W fun e w' => ∃ a n' c, e = .returned (.slice a n' c) ∧ Hid (Octs w' (.slice a n' c) (octets n)) ∧ Hid (Below W.heap.size W w') := by
  refine (refPut_any n W h0 h1).mono ?_
  rintro e w' ⟨v, rfl, ho, hb⟩
  obtain ⟨a, n', c, rfl, _⟩ := own_shape ho
  exact ⟨a, n', c, rfl, Octs.put ho h0 h1, hb⟩
theorem refEncO (l : List En) (v : Value) (W : World) (h : EntsR W v l) : Calls Try.prog 17 #[v] W fun e w' => ∃ a n c, e = .returned (.tuple #[.slice a n c, .int .i64 (encB l).2]) ∧ Hid (n = (encB l).1.length) ∧ Hid (Octs w' (.slice a n c) (encB l).1) ∧ Hid (Below W.heap.size W w') := by
  refine (refEncB_any l v W h).mono ?_
  rintro e w' ⟨v', rfl, h1, h2⟩
  obtain ⟨a, n, c, rfl, _⟩ := own_shape h1
  obtain ⟨_, c2, e2, _⟩ := own_len h1
  simp only [Value.slice.injEq] at e2
  exact ⟨a, n, c, rfl, e2.2.1, Octs.own h1 (encB_oct l), h2⟩
theorem wpList_append_new (w : World) {ops : Array Oper} {rest : List Oper} {o : Oper} {a : Act} {Q : Exit → Act → World → Prop} (hgd : o.guard = none) (s x : Operand)
    (ho : o.op = .call { callee := .builtin .append, args := #[s, x], argTypes := #[25, 25] }) (b off n cap : Nat) (lo : List Int) (hs : a.eval s = .slice (some ⟨b, off, none⟩) n cap) (hO : Octs w (.slice (some ⟨b, off, none⟩) n cap) lo) (hne : lo ≠ [])
    (vx : Value) (lx : List Int) (hx : a.eval x = vx) (hOx : Octs w vx lx) (hnx : lx ≠ []) (hg : cap < n + lx.length) (hsz : lo.length + lx.length ≤ 140737488351232)
    (h : ∀ v' w', OwnB w' w.heap.size v' (lo ++ lx) → Below w.heap.size w w' → wpList Try.prog ops Q rest (a.put o.dst v') w') : wpList Try.prog ops Q (o :: rest) a w := by
  refine wpList_plain hgd fun K hK => ?_
  obtain ⟨i0, hi, hz0, hz1, hz2⟩ := info_some Try.info5
  rcases hO.2 with ⟨q, _⟩ | ⟨_, b1, off1, cap1, e1, _, _, hc1⟩
  · exact absurd q hne
  rcases hOx.2 with ⟨q, _⟩ | ⟨_, b2, off2, cap2, e2, _, _, hc2⟩
  · exact absurd q hnx
  simp only [Value.slice.injEq, Option.some.injEq, Addr.mk.injEq] at e1
  obtain ⟨⟨rfl, rfl, _⟩, hn, rfl⟩ := e1
  have hcell : ∀ (bb oo : Nat) (l : List Int), (∀ j x, l[j]? = some x → w.cell? ⟨bb, oo + j, none⟩ = some (.int .u8 x)) → ∀ j u, (l.map (Value.int .u8))[j]? = some u → w.cell? ((⟨bb, oo, none⟩ : Addr).add j) = some u := by
    intro bb oo l hc j u hj
    rw [List.getElem?_map] at hj
    cases hx' : l[j]? with
    | none => rw [hx'] at hj; cases hj
    | some y =>
      rw [hx'] at hj
      simp at hj
      subst hj
      rw [Addr.add_lit]
      exact hc j y hx'
  obtain ⟨v', w', hr, h2, h3⟩ := run_append_arg_grows (P := Try.prog) w 25 o.type 5 i0 (.int .u8 0) 1 1 Try.underlying25 hi hz0 hz1 hz2 rfl (by decide) ⟨b, off, none⟩ n cap (lo.map (Value.int .u8)) (by simp [hn]) (hcell b off lo hc1) ⟨b2, off2, none⟩ lx.length cap2 (lx.map (Value.int .u8)) (by simp) (hcell b2 off2 lx hc2) hg (by unfold maxLen; omega) (by omega)
  have h2' : OwnB w' w.heap.size v' (lo ++ lx) := by
    unfold OwnB
    rw [List.length_append, List.map_append, ← hn]
    exact h2
  have h3' : Below w.heap.size w w' := (Below.refl _ _).grown h3 (Nat.le_refl _) (fun k hk => by cases hk)
  rw [e2] at hx
  unfold Oper.wp execOp
  simp only [ho, resolve, invoke, builtin, Sem.run_bind, Sem.run_pure, Result.andThen_ok, List.map_toArray, List.map_cons, List.map_nil, hs, hx, hr]
  exact hK _ _ (h v' w' h2' h3')
theorem octs_const (w : World) (l : List Int) (hl : l.length = 4) (ho : ∀ x ∈ l, 0 ≤ x ∧ x ≤ 255) (m : Nat × Nat) : Octs (w.alloc (.cells (l.map (Value.int .u8)).toArray 5 m)) (.slice (some ⟨w.heap.size, 0, none⟩) 4 4) l := by
  refine ⟨ho, .inr ⟨(by intro q; rw [q] at hl; cases hl), w.heap.size, 0, 4, (by rw [hl]), (by omega), (by unfold maxLen; omega), fun j x hj => ?_⟩⟩
  have e := World.cell?_alloc_mark w (l.map (Value.int .u8)).toArray 5 m j
  rw [Nat.zero_add]
  refine e.trans ?_
  simp [hj]
/-- The loop of Build: so many blocks and rows of the index. -/
structure BuI (w wr : World) (l : List En) (k : Nat) (ba : Option Addr) (bn bc : Nat) (ta : Option Addr) (tn tc : Nat) : Prop where
  en : EnW w (.slice ba bn bc) (.slice ta tn tc) (blkT l k) (idxT l k) wr
  km : k ≤ manyT l

set_option maxHeartbeats 8000000 in
set_option maxRecDepth 100000 in
theorem refBuild_good (l : List En) (a : Option Addr) (c : Nat) (w : World) (hv : EntsR w (.slice a l.length c) l) (h0 : chkT l = 0) :
    Calls Try.prog 7 #[.slice a l.length c] w fun e w' => ∃ v', e = .returned (.tuple #[v', .int .i64 0]) ∧ OwnB w' w.heap.size v' (tabO l) ∧ Below w.heap.size w w' := by
  obtain ⟨l1, l2, hord⟩ := chkT_ok h0
  have HCH : Hid (chkT l = 0) := h0
  have HC : Hid (Calls Try.prog 16 #[.slice a l.length c] w fun e w' => e = .returned (.int .i64 0) ∧ Hid (Below w.heap.size w w')) := by
    have h := refOrdered_any l _ w hv
    rw [hord] at h
    exact h
  have HV : Hid (EntsR w (.slice a l.length c) l) := hv
  have HORD : Hid (ordE none l = 0) := hord
  obtain ⟨n, hn⟩ : ∃ n, n = l.length := ⟨_, rfl⟩
  have HL : Hid (l.length = n) := hn.symm
  rw [← hn] at HC HV l1 l2 ⊢
  have l1' : ¬ (n : Int) < 1 := by omega
  have l2' : ¬ (4096 : Int) < (n : Int) := by omega
  clear hv hord hn h0
  go_enter Try.func7, Try.ntmps7
  go_wp2_with fail
  refine HC.out.mono ?_
  rintro e w1 ⟨rfl, b1⟩
  have E0 : Hid (BuI w w1 l 0 none 0 0 none 0 0) := ⟨⟨OwnB.nil _ _, OwnB.nil _ _, (fun g h => by simp [Value.ownBlock] at h), b1.out⟩, Nat.zero_le _⟩
  clear b1 HC
  go_wp2_with fail
  go_loopw [5, 6, 7] (fun vb vt i wr => ∃ (k p : Nat) (ba ta : Option Addr) (bn bc tn tc : Nat), vb = .slice ba bn bc ∧ vt = .slice ta tn tc ∧ i = .int .i64 p ∧ Hid (p = 16 * k) ∧ p ≤ 4112 ∧ Hid (BuI w wr l k ba bn bc ta tn tc)) (fun _ _ i _ => n - (intOf i).toNat)
  case atStart => exact ⟨0, 0, none, none, 0, 0, 0, 0, rfl, rfl, rfl, rfl, by omega, E0⟩
  case round =>
    clear E0
    obtain ⟨k, p, ba, ta, bn, bc, tn, tc, rfl, rfl, rfl, HPK, hp4, EW⟩ := hrel
    by_cases hlt : p < n
    · have hlt' : (p : Int) < (n : Int) := by omega
      obtain ⟨b, off, cap, x, e, hx, z0, z1, z2, z3⟩ := (HV.out.up EW.out.en.up).at p (by rw [HL.out]; exact hlt)
      simp only [Value.slice.injEq] at e
      obtain ⟨rfl, hnn, rfl⟩ := e
      clear hnn z1 z2 z3
      have BLT : Hid (b < w.heap.size) := by
        obtain ⟨bb, oo, _, xx, ee, _, zz, _⟩ := HV.out.at p (by rw [HL.out]; exact hlt)
        simp only [Value.slice.injEq, Option.some.injEq, Addr.mk.injEq] at ee
        have := World.block_lt_of_cell? w _ zz
        unfold Hid
        rw [ee.1.1]
        exact this
      obtain ⟨p16, hp16⟩ : ∃ p16, p16 = p + 16 := ⟨_, rfl⟩
      have a1 : (p : Int) + 16 = (p16 : Int) := by omega
      have a2 : IntKind.i64.wrap (p16 : Int) = (p16 : Int) := by rw [IntKind.wrap_i64]; omega
      by_cases hb16 : n < p16
      · have hb' : (n : Int) < (p16 : Int) := by omega
        have a3 : (p : Int) ≤ (n : Int) := by omega
        have a4 : (n : Int) ≤ (c : Int) := by
          obtain ⟨_, _, e, hc, _⟩ := HV.out.len
          simp only [Value.slice.injEq] at e
          have := HL.out
          omega
        have a5 : (0 : Int) ≤ (p : Int) := by omega
        have HP16 : Hid (p16 = p + 16) := hp16
        have HCK : Hid (∀ W : World, EntsR W (.slice (some ⟨b, off, none⟩) n c) l → EntsR W (.slice (some ⟨b, off + p * 4, none⟩) (n - p) (c - p)) (chunkT l k)) := fun W h => by
          have hL := HL.out
          rw [← hL] at h
          have := ents_mid h p n (by omega) (by omega) (by omega)
          rw [if_neg (by omega)] at this
          have e : chunkT l k = (l.drop p).take (n - p) := by
            unfold chunkT
            rw [← HPK.out]
            by_cases hb : p16 ≤ n
            · rw [show n - p = 16 by omega]
            · rw [List.take_of_length_le (by simp; omega), List.take_of_length_le (by simp; omega)]
          rw [e]
          exact this
        have hkm : k < manyT l := by unfold manyT; have := HPK.out; have := HL.out; omega
        have HCC : Hid (chkB (chunkT l k) = 0) := chunk_chk HORD.out (by have := HPK.out; have := HL.out; omega)
        have HFK : Hid (firstT (chunkT l k) = nums x.key) := by
          unfold Hid chunkT
          rw [← HPK.out]
          have hd : l.drop p = x :: l.drop (p + 1) := by
            have hpl := (List.getElem?_eq_some_iff.1 hx).1
            rw [List.drop_eq_getElem_cons hpl, (List.getElem?_eq_some_iff.1 hx).2]
          rw [hd]
          rfl
        have HB2 : Hid (blkT l (k + 1) = blkT l k ++ (encB (chunkT l k)).1) := blkT_succ l k
        have HI2 : Hid (idxT l (k + 1) = idxT l k ++ (octets ((encB (chunkT l k)).1.length : Int) ++ (octets ((nums x.key).length : Int) ++ nums x.key))) := by
          unfold Hid
          rw [idxT_succ]
          unfold idxE
          rw [HFK.out]
        have hkl : (nums x.key).length ≤ 96 := by have := firstT_len HCC.out; rw [HFK.out] at this; exact this
        have hks : x.key.size = (nums x.key).length := (nums_length _).symm
        have hEl := encB_len' (chunkT l k)
        have HBL : Hid ((blkT l k).length ≤ 10624000) := by
          have := blkT_len l k
          have : k ≤ 256 := by have := many_256 (l := l) (by rw [HL.out]; exact l2); omega
          unfold Hid
          omega
        have HIL : Hid ((idxT l k).length ≤ 29184) := by
          have h1 := idxT_len HORD.out k (fun i hi => many_le.1 i (by omega))
          have : k ≤ 256 := by have := many_256 (l := l) (by rw [HL.out]; exact l2); omega
          unfold Hid
          omega
        have HEN := hid (refEncO (chunkT l k))
        have HP1 := hid (refPutO ((encB (chunkT l k)).1.length : Int) (by omega) (by omega))
        have HP2 := hid (refPutO ((nums x.key).length : Int) (by omega) (by omega))
        have OL1 : Hid ((octets ((encB (chunkT l k)).1.length : Int)).length ≤ 9) := (octets_len _ (by omega) (by omega)).2
        have OL2 : Hid ((octets ((nums x.key).length : Int)).length ≤ 9) := (octets_len _ (by omega) (by omega)).2
        have HKM : Hid (k < manyT l) := hkm
        have HE0 : Hid ((encB (chunkT l k)).2 = 0) := by unfold Hid encB; rw [if_pos HCC.out]
        rw [HE0.out] at HEN
        generalize (encB (chunkT l k)).1 = EB at *
        obtain ⟨en, hen⟩ : ∃ en, en = EB.length := ⟨_, rfl⟩
        rw [← hen] at HP1 OL1 HI2 hEl
        generalize octets (en : Int) = O1 at *
        generalize octets ((nums x.key).length : Int) = O2 at *
        have HEN2 : Hid (en = EB.length) := hen
        clear hx hkm HFK HCC HE0 hp16 hen
        go_wp2_with fail
        refine (HEN.out _ _ (HCK.out _ (HV.out.up EW.out.en.up))).mono ?_
        rintro e w2 ⟨ea, en', ec, rfl, hen', EO, u2⟩
        obtain rfl : en = en' := by rw [HEN2.out, hen'.out]
        have E2 : Hid (EnW w (.slice ba bn bc) (.slice ta tn tc) (blkT l k) (idxT l k) w2) := EW.out.en.upw u2.out
        have Z2 : Hid (w2.cell? ⟨b, off + p * 4, none⟩ = some (.string x.key)) := (u2.out.cell (World.block_lt_of_cell? _ _ z0)).trans z0
        have HZ0 : Hid ((blkT l k).length + EB.length ≤ 140737488355328) := by have := HBL.out; have := HEN2.out; unfold Hid; omega
        have HS0 : Hid (w.heap.size ≤ w2.heap.size) := E2.out.up.size
        clear u2 z0 HEN HCK EW hen'
        generalize hBK : blkT l k = BK at *
        generalize hIK : idxT l k = IK at *
        clear hBK hIK
        go_wp2_with (at_builtin; refine wpList_append_octs_at w2 rfl _ _ rfl w.heap.size (.slice ba bn bc) BK rfl E2.out.ob (.slice ea en ec) EB rfl EO.out HZ0.out HS0.out ?_)
        intro v3 w3 ho hg ha
        obtain ⟨ba3, bn3, bc3, rfl, _⟩ := own_shape ho
        have E3 : Hid (EnW w (.slice ba3 bn3 bc3) (.slice ta tn tc) (BK ++ EB) IK w3) := E2.out.appB ho hg (ha.imp id fun h => ⟨_, h, Nat.le_refl _⟩)
        have Z3 : Hid (w3.cell? ⟨b, off + p * 4, none⟩ = some (.string x.key)) := hg.cell Z2.out (fun e => by have := (E2.out.ob.lt b e.symm).1; have := BLT.out; omega)
        clear ho hg ha E2 Z2 EO HZ0 HS0
        go_wp2_with fail
        refine (HP1.out _).mono ?_
        rintro e w4 ⟨pa, pn, pc, rfl, PO, u4⟩
        have E4 : Hid (EnW w (.slice ba3 bn3 bc3) (.slice ta tn tc) (BK ++ EB) IK w4) := E3.out.upw u4.out
        have Z4 : Hid (w4.cell? ⟨b, off + p * 4, none⟩ = some (.string x.key)) := (u4.out.cell (World.block_lt_of_cell? _ _ Z3.out)).trans Z3.out
        have HZ1 : Hid (IK.length + O1.length ≤ 140737488355328) := by have := HIL.out; have := OL1.out; unfold Hid; omega
        have HS1 : Hid (w.heap.size ≤ w4.heap.size) := E4.out.up.size
        clear u4 E3 Z3 HP1
        generalize BK ++ EB = BE at *
        go_wp2_with (at_builtin; refine wpList_append_octs_at w4 rfl _ _ rfl w.heap.size (.slice ta tn tc) IK rfl E4.out.ot (.slice pa pn pc) O1 rfl PO.out HZ1.out HS1.out ?_)
        intro v5 w5 ho hg ha
        obtain ⟨ta5, tn5, tc5, rfl, _⟩ := own_shape ho
        have E5 : Hid (EnW w (.slice ba3 bn3 bc3) (.slice ta5 tn5 tc5) BE (IK ++ O1) w5) := E4.out.appT ho hg (ha.imp id fun h => ⟨_, h, Nat.le_refl _⟩)
        have Z5 : Hid (w5.cell? ⟨b, off + p * 4, none⟩ = some (.string x.key)) := hg.cell Z4.out (fun e => by have := (E4.out.ot.lt b e.symm).1; have := BLT.out; omega)
        have L5 : Hid ((IK ++ O1).length ≤ 29193) := by have := HIL.out; have := OL1.out; unfold Hid; rw [List.length_append]; omega
        have EQ5 : Hid (IK ++ (O1 ++ (O2 ++ nums x.key)) = (IK ++ O1) ++ (O2 ++ nums x.key)) := by unfold Hid; simp
        rw [EQ5.out] at HI2
        clear ho hg ha E4 Z4 PO HZ1 HS1 EQ5
        generalize IK ++ O1 = I1 at *
        have y5 := Z5.out
        go_wp2_with fail
        refine (HP2.out _).mono ?_
        rintro e w6 ⟨pa6, pn6, pc6, rfl, PO6, u6⟩
        have E6 : Hid (EnW w (.slice ba3 bn3 bc3) (.slice ta5 tn5 tc5) BE I1 w6) := E5.out.upw u6.out
        have Z6 : Hid (w6.cell? ⟨b, off + p * 4, none⟩ = some (.string x.key)) := (u6.out.cell (World.block_lt_of_cell? _ _ Z5.out)).trans Z5.out
        have HZ2 : Hid (I1.length + O2.length ≤ 140737488355328) := by have := L5.out; have := OL2.out; unfold Hid; omega
        have HS2 : Hid (w.heap.size ≤ w6.heap.size) := E6.out.up.size
        clear u6 E5 Z5 HP2 y5
        go_wp2_with (at_builtin; refine wpList_append_octs_at w6 rfl _ _ rfl w.heap.size (.slice ta5 tn5 tc5) I1 rfl E6.out.ot (.slice pa6 pn6 pc6) O2 rfl PO6.out HZ2.out HS2.out ?_)
        intro v7 w7 ho hg ha
        obtain ⟨ta7, tn7, tc7, rfl, _⟩ := own_shape ho
        have E7 : Hid (EnW w (.slice ba3 bn3 bc3) (.slice ta7 tn7 tc7) BE (I1 ++ O2) w7) := E6.out.appT ho hg (ha.imp id fun h => ⟨_, h, Nat.le_refl _⟩)
        have Z7 : Hid (w7.cell? ⟨b, off + p * 4, none⟩ = some (.string x.key)) := hg.cell Z6.out (fun e => by have := (E6.out.ot.lt b e.symm).1; have := BLT.out; omega)
        have L7 : Hid ((I1 ++ O2).length ≤ 29202) := by have := L5.out; have := OL2.out; unfold Hid; rw [List.length_append]; omega
        have EQ7 : Hid (I1 ++ (O2 ++ nums x.key) = (I1 ++ O2) ++ nums x.key) := by unfold Hid; simp
        rw [EQ7.out] at HI2
        clear ho hg ha E6 Z6 PO6 HZ2 HS2 EQ7 L5
        generalize I1 ++ O2 = I2 at *
        have y7 := Z7.out
        have HZ3 : Hid (I2.length + x.key.size ≤ 140737488355328) := by have := L7.out; unfold Hid; omega
        have HS3 : Hid (w.heap.size ≤ w7.heap.size) := E7.out.up.size
        go_wp2_with (at_builtin; refine wpList_append_str_at w7 rfl _ _ rfl w.heap.size (.slice ta7 tn7 tc7) I2 rfl E7.out.ot x.key rfl HZ3.out HS3.out ?_)
        intro v8 w8 ho hg ha
        obtain ⟨ta8, tn8, tc8, rfl, _⟩ := own_shape ho
        have E8 : Hid (EnW w (.slice ba3 bn3 bc3) (.slice ta8 tn8 tc8) BE (I2 ++ nums x.key) w8) := E7.out.appT ho hg ha
        clear ho hg ha E7 Z7 HZ3 HS3 y7
        go_wp2_with fail
        refine ⟨⟨k + 1, p16, ba3, ta8, bn3, bc3, tn8, tc8, rfl, rfl, rfl, by unfold Hid; have := HPK.out; have := HP16.out; omega, by have := HP16.out; omega, ?_⟩, by have := HP16.out; simp [intOf]; omega⟩
        refine ⟨?_, by have := HKM.out; omega⟩
        rw [HB2.out, HI2.out]
        exact E8.out
      · have hb' : ¬ (n : Int) < (p16 : Int) := by omega
        have a3 : (p : Int) ≤ (p16 : Int) := by omega
        have a4 : (p16 : Int) ≤ (c : Int) := by
          obtain ⟨_, _, e, hc, _⟩ := HV.out.len
          simp only [Value.slice.injEq] at e
          have := HL.out
          omega
        have a5 : (0 : Int) ≤ (p : Int) := by omega
        have HP16 : Hid (p16 = p + 16) := hp16
        have HCK : Hid (∀ W : World, EntsR W (.slice (some ⟨b, off, none⟩) n c) l → EntsR W (.slice (some ⟨b, off + p * 4, none⟩) (p16 - p) (c - p)) (chunkT l k)) := fun W h => by
          have hL := HL.out
          rw [← hL] at h
          have := ents_mid h p p16 (by omega) (by omega) (by omega)
          rw [if_neg (by omega)] at this
          have e : chunkT l k = (l.drop p).take (p16 - p) := by
            unfold chunkT
            rw [← HPK.out]
            by_cases hb : p16 ≤ n
            · rw [show p16 - p = 16 by omega]
            · rw [List.take_of_length_le (by simp; omega), List.take_of_length_le (by simp; omega)]
          rw [e]
          exact this
        have hkm : k < manyT l := by unfold manyT; have := HPK.out; have := HL.out; omega
        have HCC : Hid (chkB (chunkT l k) = 0) := chunk_chk HORD.out (by have := HPK.out; have := HL.out; omega)
        have HFK : Hid (firstT (chunkT l k) = nums x.key) := by
          unfold Hid chunkT
          rw [← HPK.out]
          have hd : l.drop p = x :: l.drop (p + 1) := by
            have hpl := (List.getElem?_eq_some_iff.1 hx).1
            rw [List.drop_eq_getElem_cons hpl, (List.getElem?_eq_some_iff.1 hx).2]
          rw [hd]
          rfl
        have HB2 : Hid (blkT l (k + 1) = blkT l k ++ (encB (chunkT l k)).1) := blkT_succ l k
        have HI2 : Hid (idxT l (k + 1) = idxT l k ++ (octets ((encB (chunkT l k)).1.length : Int) ++ (octets ((nums x.key).length : Int) ++ nums x.key))) := by
          unfold Hid
          rw [idxT_succ]
          unfold idxE
          rw [HFK.out]
        have hkl : (nums x.key).length ≤ 96 := by have := firstT_len HCC.out; rw [HFK.out] at this; exact this
        have hks : x.key.size = (nums x.key).length := (nums_length _).symm
        have hEl := encB_len' (chunkT l k)
        have HBL : Hid ((blkT l k).length ≤ 10624000) := by
          have := blkT_len l k
          have : k ≤ 256 := by have := many_256 (l := l) (by rw [HL.out]; exact l2); omega
          unfold Hid
          omega
        have HIL : Hid ((idxT l k).length ≤ 29184) := by
          have h1 := idxT_len HORD.out k (fun i hi => many_le.1 i (by omega))
          have : k ≤ 256 := by have := many_256 (l := l) (by rw [HL.out]; exact l2); omega
          unfold Hid
          omega
        have HEN := hid (refEncO (chunkT l k))
        have HP1 := hid (refPutO ((encB (chunkT l k)).1.length : Int) (by omega) (by omega))
        have HP2 := hid (refPutO ((nums x.key).length : Int) (by omega) (by omega))
        have OL1 : Hid ((octets ((encB (chunkT l k)).1.length : Int)).length ≤ 9) := (octets_len _ (by omega) (by omega)).2
        have OL2 : Hid ((octets ((nums x.key).length : Int)).length ≤ 9) := (octets_len _ (by omega) (by omega)).2
        have HKM : Hid (k < manyT l) := hkm
        have HE0 : Hid ((encB (chunkT l k)).2 = 0) := by unfold Hid encB; rw [if_pos HCC.out]
        rw [HE0.out] at HEN
        generalize (encB (chunkT l k)).1 = EB at *
        obtain ⟨en, hen⟩ : ∃ en, en = EB.length := ⟨_, rfl⟩
        rw [← hen] at HP1 OL1 HI2 hEl
        generalize octets (en : Int) = O1 at *
        generalize octets ((nums x.key).length : Int) = O2 at *
        have HEN2 : Hid (en = EB.length) := hen
        clear hx hkm HFK HCC HE0 hp16 hen
        go_wp2_with fail
        refine (HEN.out _ _ (HCK.out _ (HV.out.up EW.out.en.up))).mono ?_
        rintro e w2 ⟨ea, en', ec, rfl, hen', EO, u2⟩
        obtain rfl : en = en' := by rw [HEN2.out, hen'.out]
        have E2 : Hid (EnW w (.slice ba bn bc) (.slice ta tn tc) (blkT l k) (idxT l k) w2) := EW.out.en.upw u2.out
        have Z2 : Hid (w2.cell? ⟨b, off + p * 4, none⟩ = some (.string x.key)) := (u2.out.cell (World.block_lt_of_cell? _ _ z0)).trans z0
        have HZ0 : Hid ((blkT l k).length + EB.length ≤ 140737488355328) := by have := HBL.out; have := HEN2.out; unfold Hid; omega
        have HS0 : Hid (w.heap.size ≤ w2.heap.size) := E2.out.up.size
        clear u2 z0 HEN HCK EW hen'
        generalize hBK : blkT l k = BK at *
        generalize hIK : idxT l k = IK at *
        clear hBK hIK
        go_wp2_with (at_builtin; refine wpList_append_octs_at w2 rfl _ _ rfl w.heap.size (.slice ba bn bc) BK rfl E2.out.ob (.slice ea en ec) EB rfl EO.out HZ0.out HS0.out ?_)
        intro v3 w3 ho hg ha
        obtain ⟨ba3, bn3, bc3, rfl, _⟩ := own_shape ho
        have E3 : Hid (EnW w (.slice ba3 bn3 bc3) (.slice ta tn tc) (BK ++ EB) IK w3) := E2.out.appB ho hg (ha.imp id fun h => ⟨_, h, Nat.le_refl _⟩)
        have Z3 : Hid (w3.cell? ⟨b, off + p * 4, none⟩ = some (.string x.key)) := hg.cell Z2.out (fun e => by have := (E2.out.ob.lt b e.symm).1; have := BLT.out; omega)
        clear ho hg ha E2 Z2 EO HZ0 HS0
        go_wp2_with fail
        refine (HP1.out _).mono ?_
        rintro e w4 ⟨pa, pn, pc, rfl, PO, u4⟩
        have E4 : Hid (EnW w (.slice ba3 bn3 bc3) (.slice ta tn tc) (BK ++ EB) IK w4) := E3.out.upw u4.out
        have Z4 : Hid (w4.cell? ⟨b, off + p * 4, none⟩ = some (.string x.key)) := (u4.out.cell (World.block_lt_of_cell? _ _ Z3.out)).trans Z3.out
        have HZ1 : Hid (IK.length + O1.length ≤ 140737488355328) := by have := HIL.out; have := OL1.out; unfold Hid; omega
        have HS1 : Hid (w.heap.size ≤ w4.heap.size) := E4.out.up.size
        clear u4 E3 Z3 HP1
        generalize BK ++ EB = BE at *
        go_wp2_with (at_builtin; refine wpList_append_octs_at w4 rfl _ _ rfl w.heap.size (.slice ta tn tc) IK rfl E4.out.ot (.slice pa pn pc) O1 rfl PO.out HZ1.out HS1.out ?_)
        intro v5 w5 ho hg ha
        obtain ⟨ta5, tn5, tc5, rfl, _⟩ := own_shape ho
        have E5 : Hid (EnW w (.slice ba3 bn3 bc3) (.slice ta5 tn5 tc5) BE (IK ++ O1) w5) := E4.out.appT ho hg (ha.imp id fun h => ⟨_, h, Nat.le_refl _⟩)
        have Z5 : Hid (w5.cell? ⟨b, off + p * 4, none⟩ = some (.string x.key)) := hg.cell Z4.out (fun e => by have := (E4.out.ot.lt b e.symm).1; have := BLT.out; omega)
        have L5 : Hid ((IK ++ O1).length ≤ 29193) := by have := HIL.out; have := OL1.out; unfold Hid; rw [List.length_append]; omega
        have EQ5 : Hid (IK ++ (O1 ++ (O2 ++ nums x.key)) = (IK ++ O1) ++ (O2 ++ nums x.key)) := by unfold Hid; simp
        rw [EQ5.out] at HI2
        clear ho hg ha E4 Z4 PO HZ1 HS1 EQ5
        generalize IK ++ O1 = I1 at *
        have y5 := Z5.out
        go_wp2_with fail
        refine (HP2.out _).mono ?_
        rintro e w6 ⟨pa6, pn6, pc6, rfl, PO6, u6⟩
        have E6 : Hid (EnW w (.slice ba3 bn3 bc3) (.slice ta5 tn5 tc5) BE I1 w6) := E5.out.upw u6.out
        have Z6 : Hid (w6.cell? ⟨b, off + p * 4, none⟩ = some (.string x.key)) := (u6.out.cell (World.block_lt_of_cell? _ _ Z5.out)).trans Z5.out
        have HZ2 : Hid (I1.length + O2.length ≤ 140737488355328) := by have := L5.out; have := OL2.out; unfold Hid; omega
        have HS2 : Hid (w.heap.size ≤ w6.heap.size) := E6.out.up.size
        clear u6 E5 Z5 HP2 y5
        go_wp2_with (at_builtin; refine wpList_append_octs_at w6 rfl _ _ rfl w.heap.size (.slice ta5 tn5 tc5) I1 rfl E6.out.ot (.slice pa6 pn6 pc6) O2 rfl PO6.out HZ2.out HS2.out ?_)
        intro v7 w7 ho hg ha
        obtain ⟨ta7, tn7, tc7, rfl, _⟩ := own_shape ho
        have E7 : Hid (EnW w (.slice ba3 bn3 bc3) (.slice ta7 tn7 tc7) BE (I1 ++ O2) w7) := E6.out.appT ho hg (ha.imp id fun h => ⟨_, h, Nat.le_refl _⟩)
        have Z7 : Hid (w7.cell? ⟨b, off + p * 4, none⟩ = some (.string x.key)) := hg.cell Z6.out (fun e => by have := (E6.out.ot.lt b e.symm).1; have := BLT.out; omega)
        have L7 : Hid ((I1 ++ O2).length ≤ 29202) := by have := L5.out; have := OL2.out; unfold Hid; rw [List.length_append]; omega
        have EQ7 : Hid (I1 ++ (O2 ++ nums x.key) = (I1 ++ O2) ++ nums x.key) := by unfold Hid; simp
        rw [EQ7.out] at HI2
        clear ho hg ha E6 Z6 PO6 HZ2 HS2 EQ7 L5
        generalize I1 ++ O2 = I2 at *
        have y7 := Z7.out
        have HZ3 : Hid (I2.length + x.key.size ≤ 140737488355328) := by have := L7.out; unfold Hid; omega
        have HS3 : Hid (w.heap.size ≤ w7.heap.size) := E7.out.up.size
        go_wp2_with (at_builtin; refine wpList_append_str_at w7 rfl _ _ rfl w.heap.size (.slice ta7 tn7 tc7) I2 rfl E7.out.ot x.key rfl HZ3.out HS3.out ?_)
        intro v8 w8 ho hg ha
        obtain ⟨ta8, tn8, tc8, rfl, _⟩ := own_shape ho
        have E8 : Hid (EnW w (.slice ba3 bn3 bc3) (.slice ta8 tn8 tc8) BE (I2 ++ nums x.key) w8) := E7.out.appT ho hg ha
        clear ho hg ha E7 Z7 HZ3 HS3 y7
        go_wp2_with fail
        refine ⟨⟨k + 1, p16, ba3, ta8, bn3, bc3, tn8, tc8, rfl, rfl, rfl, by unfold Hid; have := HPK.out; have := HP16.out; omega, by have := HP16.out; omega, ?_⟩, by have := HP16.out; simp [intOf]; omega⟩
        refine ⟨?_, by have := HKM.out; omega⟩
        rw [HB2.out, HI2.out]
        exact E8.out
    · have hlt' : ¬ (p : Int) < (n : Int) := by omega
      have hk : k = manyT l := by
        have h1 := EW.out.km
        have h2 := HPK.out
        have h3 := HL.out
        unfold manyT at h1 ⊢
        omega
      subst hk
      obtain ⟨hil, hfl⟩ : (idxT l (manyT l)).length ≤ 29184 ∧ (fr2 l).length ≤ 29198 := ⟨(fr2_len HCH.out).2, (fr2_len HCH.out).1⟩
      have hio := idxT_oct HCH.out
      have hf3 := fr3_oct HCH.out
      have hal := at_len HCH.out
      have HBO : Hid ((blkT l (manyT l)).length ≤ 10624000 ∧ (fr2 l).length ≤ 29198 ∧ (fr3 l).length ≤ 8207) := by
        refine ⟨hal.1, hfl, ?_⟩
        have h1 := frame_len 3 (encL (filT l).1 (filT l).2)
        have h2 := octets_len ((encL (filT l).1 (filT l).2).length : Int) (by omega) (by omega)
        unfold fr3
        omega
      have HF2O : Hid (∀ y ∈ fr2 l, 0 ≤ y ∧ y ≤ 255) := fr2_oct HCH.out
      have HF3O : Hid (∀ y ∈ fr3 l, 0 ≤ y ∧ y ≤ 255) := hf3.1
      have HTAB : Hid (tabO l = ((blkT l (manyT l) ++ fr2 l) ++ fr3 l) ++ footO (atT l) (toT l) n) := by unfold Hid tabO; rw [HL.out]; simp
      obtain ⟨_, c2, e2, _⟩ := own_len EW.out.en.ot
      simp only [Value.slice.injEq] at e2
      have htn : tn = (idxT l (manyT l)).length := e2.2.1
      clear e2
      obtain ⟨_, c3, e3, _⟩ := own_len EW.out.en.ob
      simp only [Value.slice.injEq] at e3
      have HBN : Hid (bn = atT l) := e3.2.1
      clear e3
      have HE0 : Hid (EnW w (.slice ba bn bc) (.slice ta tn tc) (blkT l (manyT l)) (idxT l (manyT l)) wr) := EW.out.en
      have HPA : Hid (∀ W : World, Octs W (.slice ta tn tc) (idxT l (manyT l)) → Calls Try.prog 19 #[.agg #[.int .i64 2, .slice ta tn tc]] W fun e w' => ∃ a n c, e = .returned (.tuple #[.slice a n c, .int .i64 0]) ∧ Hid (n = (fr2 l).length) ∧ Hid (Octs w' (.slice a n c) (fr2 l)) ∧ Hid (Below W.heap.size W w')) := fun W h => by
        rw [htn] at h ⊢
        refine (rput_good 2 ta tc _ W h (by omega) (by omega) (by omega)).mono ?_
        rintro e w' ⟨v', rfl, h1, h2⟩
        obtain ⟨a, n, c, rfl, _⟩ := own_shape h1
        obtain ⟨_, c2, e2, _⟩ := own_len h1
        simp only [Value.slice.injEq] at e2
        exact ⟨a, n, c, rfl, e2.2.1, Octs.own h1 HF2O.out, h2⟩
      have HIO : Hid (∀ y ∈ idxT l (manyT l), 0 ≤ y ∧ y ≤ 255) := hio
      obtain ⟨_, he, ho2, k1, k2, kl⟩ := fil_may HCH.out
      have HFM := fil_may HCH.out
      have HKS : Hid (∀ W : World, EntsR W (.slice a n c) l → Calls Try.prog 21 #[.slice a n c] W fun e w' => ∃ a n c, e = .returned (.slice a n c) ∧ Hid (TextsW w' (.slice a n c) (keysT none l)) ∧ Hid (Below W.heap.size W w')) := fun W h => by
        refine (refKeys_any l _ W h (by rw [HL.out]; omega)).mono ?_
        rintro e w' ⟨a, n, c, rfl, _, h1, h2⟩
        exact ⟨a, n, c, rfl, Rws.own h1.out, h2⟩
      have HKL : Hid (KeyL (keysT none l)) := fun s hs => by
        obtain ⟨x, hx, rfl⟩ := keysT_oct l none s hs
        have hm := ordE_may l none HORD.out x hx
        have := (mayE_le hm).2.1
        exact ⟨nums_octet x.key, by omega⟩
      have HMK : Hid (∀ (v : Value) (W : World), TextsW W v (keysT none l) → Calls Try.prog 20 #[v, .int .i64 10] W fun e w' => ∃ a n c x, e = .returned (.tuple #[.agg #[.int .i64 (filT l).1, .slice a n c], .int .i64 x]) ∧ Hid (n = (filT l).2.length) ∧ Hid (Octs w' (.slice a n c) (filT l).2) ∧ Hid (Below W.heap.size W w')) := fun v W h => by
        refine (refMake_any _ HKL.out 10 v W h).mono ?_
        rintro e w' ⟨a, n, c, rfl, h1, h2, h3⟩
        exact ⟨a, n, c, _, rfl, h1, Octs.own h2 ho2, h3⟩
      have HEC : Hid (∀ (a : Option Addr) (n c : Nat) (W : World), n = (filT l).2.length → Octs W (.slice a n c) (filT l).2 → Calls Try.prog 22 #[.agg #[.int .i64 (filT l).1, .slice a n c]] W fun e w' => ∃ a n c x, e = .returned (.tuple #[.slice a n c, .int .i64 x]) ∧ Hid (n = (encL (filT l).1 (filT l).2).length) ∧ Hid (Octs w' (.slice a n c) (encL (filT l).1 (filT l).2)) ∧ Hid (Below W.heap.size W w')) := fun a n c W hn h => by
        subst hn
        refine (refEncode_any _ _ a c W h).mono ?_
        rintro e w' ⟨a', n', c', rfl, h1, h2, h3⟩
        refine ⟨a', n', c', _, rfl, h1, Octs.own h2 ?_, h3⟩
        rw [he]
        intro y hy
        rcases List.mem_cons.1 hy with rfl | q
        · omega
        · exact ho2 y q
      have HPB : Hid (∀ (a : Option Addr) (n c : Nat) (W : World), n = (encL (filT l).1 (filT l).2).length → Octs W (.slice a n c) (encL (filT l).1 (filT l).2) → Calls Try.prog 19 #[.agg #[.int .i64 3, .slice a n c]] W fun e w' => ∃ a n c, e = .returned (.tuple #[.slice a n c, .int .i64 0]) ∧ Hid (n = (fr3 l).length) ∧ Hid (Octs w' (.slice a n c) (fr3 l)) ∧ Hid (Below W.heap.size W w')) := fun a n c W hn h => by
        subst hn
        refine (rput_good 3 a c _ W h (by omega) (by omega) (by have := hf3.2; omega)).mono ?_
        rintro e w' ⟨v', rfl, h1, h2⟩
        obtain ⟨a, n, c, rfl, _⟩ := own_shape h1
        obtain ⟨_, c2, e2, _⟩ := own_len h1
        simp only [Value.slice.injEq] at e2
        exact ⟨a, n, c, rfl, e2.2.1, Octs.own h1 HF3O.out, h2⟩
      have HTO : Hid (toT l = atT l + (fr2 l).length) := rfl
      have HAL : Hid (atT l ≤ 10624000 ∧ toT l ≤ 10653198) := hal
      have HF4 := hid (fun m (h : m < 4294967296) W => refFour_own m W h)
      have HGD := hid refGuard_any
      have HFO := hid foot_oct
      have HFL := hid foot_len
      clear EW hil hfl hio hf3 hal htn he ho2 k1 k2 kl HFM HKL
      generalize encL (filT l).1 (filT l).2 = EL at *
      generalize filT l = FL at *
      generalize keysT none l = KT at *
      generalize idxT l (manyT l) = IK at *
      have HBKL : Hid ((blkT l (manyT l)).length = atT l) := rfl
      generalize blkT l (manyT l) = BK at *
      generalize fr2 l = F2 at *
      generalize fr3 l = F3 at *
      generalize atT l = AT at *
      generalize toT l = TO at *
      have h24 : 0 < (1 : Nat) := by omega
      go_wp2_with fail
      refine (HPA.out _ (Octs.own HE0.out.ot HIO.out)).mono ?_
      rintro e w2 ⟨ya, yn, yc, rfl, hyn, YO, u2⟩
      have E2 : Hid (EnW w (.slice ba bn bc) (.slice ta tn tc) BK IK w2) := HE0.out.upw u2.out
      have HZ0 : Hid (BK.length + F2.length ≤ 140737488355328) := by have := HBO.out; unfold Hid; omega
      have HS0 : Hid (w.heap.size ≤ w2.heap.size) := E2.out.up.size
      clear u2 HE0 HPA HIO
      go_wp2_with (at_builtin; refine wpList_append_octs_at w2 rfl _ _ rfl w.heap.size (.slice ba bn bc) BK rfl E2.out.ob (.slice ya yn yc) F2 rfl YO.out HZ0.out HS0.out ?_)
      intro v3 w3 ho hg ha
      obtain ⟨ba3, bn3, bc3, rfl, hb3⟩ := own_shape ho
      have E3 : Hid (EnW w (.slice ba3 bn3 bc3) (.slice ta tn tc) (BK ++ F2) IK w3) := E2.out.appB ho hg (ha.imp id fun h => ⟨_, h, Nat.le_refl _⟩)
      have HB3 : Hid (bn3 = TO) := by unfold Hid; rw [hb3.out, List.length_append, HBKL.out, HTO.out]
      have HL3 : Hid ((BK ++ F2).length ≤ 10653198) := by have := HBO.out; unfold Hid; rw [List.length_append]; omega
      clear ho hg ha E2 YO HZ0 HS0 hb3 hyn
      generalize BK ++ F2 = B2 at *
      go_wp2_with fail
      refine (HKS.out _ (HV.out.up E3.out.up)).mono ?_
      rintro e w4 ⟨ka, kn, kc, rfl, KW, u4⟩
      go_wp2_with fail
      refine (HMK.out _ _ KW.out).mono ?_
      rintro e w5 ⟨ma, mn, mc, mx, rfl, hmn, MO, u5⟩
      have E5 : Hid (EnW w (.slice ba3 bn3 bc3) (.slice ta tn tc) B2 IK w5) := (E3.out.upw u4.out).upw u5.out
      clear E3 u4 u5 KW HKS HMK
      obtain ⟨w6, hw6⟩ : ∃ w6, w6 = w5.alloc (.cells #[.int .i64 FL.1, .slice ma mn mc] 55) := ⟨_, rfl⟩
      have HW6 : Hid (w5.alloc (.cells #[.int .i64 FL.1, .slice ma mn mc] 55) = w6) := hw6.symm
      have B6 : Hid (w6.heap[w5.heap.size]? = some (.cells #[.int .i64 FL.1, .slice ma mn mc] 55)) := by rw [hw6]; exact blk_new _ _
      have U6 : Hid (Below w5.heap.size w5 w6) := by rw [hw6]; exact up_alloc _ _
      have q0 := blk_cell B6.out 0 _ rfl
      have q1 := blk_cell B6.out 1 _ rfl
      have E6 : Hid (EnW w (.slice ba3 bn3 bc3) (.slice ta tn tc) B2 IK w6) := E5.out.upw U6.out
      have MO6 : Hid (Octs w6 (.slice ma mn mc) FL.2) := MO.out.up U6.out
      clear hw6 E5 MO
      go_wp2_with fail
      rw [HW6.out]
      refine (HEC.out _ _ _ _ hmn.out MO6.out).mono ?_
      rintro e w7 ⟨za, zn, zc, zx, rfl, hzn, ZO, u7⟩
      have E7 : Hid (EnW w (.slice ba3 bn3 bc3) (.slice ta tn tc) B2 IK w7) := E6.out.upw u7.out
      clear E6 u7 HW6 B6 U6 q0 q1 HEC MO6
      go_wp2_with fail
      refine (HPB.out _ _ _ _ hzn.out ZO.out).mono ?_
      rintro e w8 ⟨ga, gn, gc, rfl, hgn, GO, u8'⟩
      have E8 : Hid (EnW w (.slice ba3 bn3 bc3) (.slice ta tn tc) B2 IK w8) := E7.out.upw u8'.out
      have HZ1 : Hid (B2.length + F3.length ≤ 140737488355328) := by have := HBO.out; have := HL3.out; unfold Hid; omega
      have HS1 : Hid (w.heap.size ≤ w8.heap.size) := E8.out.up.size
      clear E7 u8' HPB ZO
      go_wp2_with (at_builtin; refine wpList_append_octs_at w8 rfl _ _ rfl w.heap.size (.slice ba3 bn3 bc3) B2 rfl E8.out.ob (.slice ga gn gc) F3 rfl GO.out HZ1.out HS1.out ?_)
      intro v9 w9 ho hg ha
      obtain ⟨ba9, bn9, bc9, rfl, _⟩ := own_shape ho
      have E9 : Hid (EnW w (.slice ba9 bn9 bc9) (.slice ta tn tc) (B2 ++ F3) IK w9) := E8.out.appB ho hg (ha.imp id fun h => ⟨_, h, Nat.le_refl _⟩)
      have HL9 : Hid ((B2 ++ F3).length ≤ 10661405) := by have := HBO.out; have := HL3.out; unfold Hid; rw [List.length_append]; omega
      clear ho hg ha E8 GO HZ1 HS1
      generalize B2 ++ F3 = B3 at *
      have kc := fun (w : World) (C : Array Value) (n c : Nat) => Lib.run_convert_bytes_const (P := Try.prog) w 25 5 C n c Try.underlying25 Try.underlying5
      have hbn : bn < 4294967296 := by rw [HBN.out]; have := HAL.out; omega
      have hbn3 : bn3 < 4294967296 := by rw [HB3.out]; have := HAL.out; omega
      have hnn : n < 4294967296 := by omega
      have OT0 : Hid (Octs (w9.alloc (.cells #[.int .u8 116, .int .u8 107, .int .u8 116, .int .u8 98] 5 (4, 5))) (.slice (some ⟨w9.heap.size, 0, none⟩) 4 4) [116, 107, 116, 98]) := octs_const w9 [116, 107, 116, 98] rfl (by decide) (4, 5)
      have UT0 : Hid (Below w9.heap.size w9 (w9.alloc (.cells #[.int .u8 116, .int .u8 107, .int .u8 116, .int .u8 98] 5 (4, 5)))) := up_alloc _ _
      go_wp2_with fail
      refine (HF4.out bn hbn _).mono ?_
      rintro e wa ⟨fa, fc, rfl, FO, ua⟩
      have OT1 : Hid (Octs wa (.slice (some ⟨w9.heap.size, 0, none⟩) 4 4) [116, 107, 116, 98]) := OT0.out.up ua.out
      have EA : Hid (EnW w (.slice ba9 bn9 bc9) (.slice ta tn tc) B3 IK wa) := (E9.out.upw UT0.out).upw ua.out
      have FO1 : Hid (Octs wa (.slice fa 4 fc) (fourL bn)) := Octs.own FO.out (four_oct bn)
      clear OT0 UT0 ua FO E9 kc
      go_wp2_with (at_builtin; refine wpList_append_new wa rfl _ _ rfl w9.heap.size 0 4 4 [116, 107, 116, 98] rfl OT1.out (by decide) (.slice fa 4 fc) (fourL bn) rfl FO1.out (by simp [fourL]) (by rw [four_len]; omega) (by rw [four_len]; decide) ?_)
      intro vb' wb ho hb
      obtain ⟨tb, tbn, tbc, rfl, _⟩ := own_shape ho
      have EB2 : Hid (EnW w (.slice ba9 bn9 bc9) (.slice tb tbn tbc) B3 ([116, 107, 116, 98] ++ fourL bn) wb) := by
        refine ⟨own_up EA.out.ob hb, OwnB.mono ho EA.out.up.size, ?_, up_trans EA.out.up hb⟩
        intro g hg' ht
        have h1 := (EA.out.ob.lt g hg').2
        have h2 := (ho.lt g ht).1
        omega
      clear ho hb EA OT1 FO1
      have HT1 : Hid (([116, 107, 116, 98] ++ fourL bn).length = 8) := rfl
      obtain ⟨T1, hT1⟩ : ∃ T1, T1 = [116, 107, 116, 98] ++ fourL bn := ⟨_, rfl⟩
      have HT1E : Hid (T1 ++ (fourL bn3 ++ fourL n) = [116, 107, 116, 98] ++ (fourL bn ++ (fourL bn3 ++ fourL n))) := by unfold Hid; rw [hT1]; simp
      rw [← hT1] at EB2 HT1
      clear hT1
      go_wp2_with fail
      refine (HF4.out bn3 hbn3 _).mono ?_
      rintro e wc ⟨fa2, fc2, rfl, FO2, uc⟩
      have EC : Hid (EnW w (.slice ba9 bn9 bc9) (.slice tb tbn tbc) B3 T1 wc) := EB2.out.upw uc.out
      have FO3 : Hid (Octs wc (.slice fa2 4 fc2) (fourL bn3)) := Octs.own FO2.out (four_oct bn3)
      have HZ4 : Hid (T1.length + (fourL bn3).length ≤ 140737488355328) := by unfold Hid; rw [HT1.out, four_len]; omega
      have HS4 : Hid (w.heap.size ≤ wc.heap.size) := EC.out.up.size
      clear FO2 uc EB2
      go_wp2_with (at_builtin; refine wpList_append_octs_at wc rfl _ _ rfl w.heap.size (.slice tb tbn tbc) T1 rfl EC.out.ot (.slice fa2 4 fc2) (fourL bn3) rfl FO3.out HZ4.out HS4.out ?_)
      intro vd wd ho hg ha
      obtain ⟨td, tdn, tdc, rfl, _⟩ := own_shape ho
      have ED : Hid (EnW w (.slice ba9 bn9 bc9) (.slice td tdn tdc) B3 (T1 ++ fourL bn3) wd) := EC.out.appT ho hg (ha.imp id fun h => ⟨_, h, Nat.le_refl _⟩)
      have HT2 : Hid ((T1 ++ fourL bn3).length = 12) := by unfold Hid; rw [List.length_append, HT1.out, four_len]
      have HTE : Hid (footO AT TO n = guardOf ((T1 ++ fourL bn3) ++ fourL n)) := by
        unfold Hid footO
        rw [← HBN.out, ← HB3.out, ← HT1E.out]
        simp
      clear ho hg ha EC FO3 HZ4 HS4 HT1 HT1E
      generalize T1 ++ fourL bn3 = T2 at *
      go_wp2_with fail
      refine (HF4.out n hnn _).mono ?_
      rintro e we ⟨fa4, fc4, rfl, FO4, ue⟩
      have EE : Hid (EnW w (.slice ba9 bn9 bc9) (.slice td tdn tdc) B3 T2 we) := ED.out.upw ue.out
      have FO5 : Hid (Octs we (.slice fa4 4 fc4) (fourL n)) := Octs.own FO4.out (four_oct n)
      have HZ5 : Hid (T2.length + (fourL n).length ≤ 140737488355328) := by unfold Hid; rw [HT2.out, four_len]; omega
      have HS5 : Hid (w.heap.size ≤ we.heap.size) := EE.out.up.size
      clear FO4 ue ED
      go_wp2_with (at_builtin; refine wpList_append_octs_at we rfl _ _ rfl w.heap.size (.slice td tdn tdc) T2 rfl EE.out.ot (.slice fa4 4 fc4) (fourL n) rfl FO5.out HZ5.out HS5.out ?_)
      intro vf wf ho hg ha
      obtain ⟨tf, tfn, tfc, rfl, _⟩ := own_shape ho
      have EF : Hid (EnW w (.slice ba9 bn9 bc9) (.slice tf tfn tfc) B3 (T2 ++ fourL n) wf) := EE.out.appT ho hg (ha.imp id fun h => ⟨_, h, Nat.le_refl _⟩)
      have HT3 : Hid ((T2 ++ fourL n).length = 16) := by unfold Hid; rw [List.length_append, HT2.out, four_len]
      have HTO3 : Hid (∀ y ∈ T2 ++ fourL n, 0 ≤ y ∧ y ≤ 255) := fun y hy => by
        have := HFO.out AT TO n y
        rw [HTE.out] at this
        exact this (List.mem_append.2 (.inl hy))
      clear ho hg ha EE FO5 HZ5 HS5 HT2
      generalize T2 ++ fourL n = T3 at *
      have HGU := hid (HGD.out T3 _ wf (Octs.own EF.out.ot HTO3.out) (by rw [HT3.out]; omega))
      go_wp2_with fail
      refine HGU.out.mono ?_
      rintro e wg ⟨vg, rfl, GO2, ug⟩
      obtain ⟨gg, ggn, ggc, rfl, _⟩ := own_shape GO2
      have EG : Hid (EnW w (.slice ba9 bn9 bc9) (.slice tf tfn tfc) B3 T3 wg) := EF.out.upw ug
      have GO3 : Hid (Octs wg (.slice gg ggn ggc) (guardOf T3)) := Octs.own GO2 (by rw [← HTE.out]; exact HFO.out AT TO n)
      have HZ6 : Hid (B3.length + (guardOf T3).length ≤ 140737488355328) := by have := HL9.out; unfold Hid; rw [guard_len, HT3.out]; omega
      have HS6 : Hid (w.heap.size ≤ wg.heap.size) := EG.out.up.size
      have HTAB2 : Hid (tabO l = B3 ++ guardOf T3) := by unfold Hid; rw [HTAB.out, HTE.out]
      clear GO2 ug EF HGU
      go_wp2_with (at_builtin; refine wpList_append_octs_at wg rfl _ _ rfl w.heap.size (.slice ba9 bn9 bc9) B3 rfl EG.out.ob (.slice gg ggn ggc) (guardOf T3) rfl GO3.out HZ6.out HS6.out ?_)
      intro vh wh ho hg ha
      have EH := EG.out.appB ho hg (ha.imp id fun h => ⟨_, h, Nat.le_refl _⟩)
      obtain ⟨th, thn, thc, rfl, _⟩ := own_shape ho
      have HO9 : Hid (OwnB wh w.heap.size (.slice th thn thc) (tabO l)) := by unfold Hid; rw [HTAB2.out]; exact ho
      have HU9 : Hid (Below w.heap.size w wh) := EH.up
      clear ho hg ha EH EG
      go_wp2_with fail
      go_ret2
      exact ⟨_, rfl, HO9.out, HU9.out⟩

theorem refBuild_any (l : List En) (v : Value) (w : World) (hv : EntsR w v l) :
    Calls Try.prog 7 #[v] w fun e w' => ∃ a n c, e = .returned (.tuple #[.slice a n c, .int .i64 (buildB l).2]) ∧ Hid (n = (buildB l).1.length) ∧ Hid (OwnB w' w.heap.size (.slice a n c) (buildB l).1) ∧ Hid (Below w.heap.size w w') := by
  obtain ⟨a, c, rfl, hc, hm⟩ := hv.len
  by_cases h0 : chkT l = 0
  · have e : buildB l = (tabO l, 0) := by unfold buildB; rw [if_pos h0]
    rw [e]
    refine (refBuild_good l a c w hv h0).mono ?_
    rintro e w' ⟨v', rfl, h1, h2⟩
    obtain ⟨a', n', c', rfl, hn⟩ := own_shape h1
    exact ⟨a', n', c', rfl, hn, h1, h2⟩
  · have e : buildB l = ([], chkT l) := by unfold buildB; rw [if_neg h0]
    rw [e]
    have HO := hid (refOrdered_any l _ w hv)
    by_cases c1 : l.length < 1
    · have hq : chkT l = 3 := by unfold chkT; rw [if_pos (.inl c1)]
      have c1' : (l.length : Int) < 1 := by omega
      rw [hq]
      clear hv HO e h0 hq
      go_enter Try.func7, Try.ntmps7
      go_wp2
      go_ret2
      exact ⟨none, 0, 0, rfl, rfl, OwnB.nil _ _, Below.refl _ _⟩
    · have c1' : ¬ (l.length : Int) < 1 := by omega
      by_cases c2 : 4096 < l.length
      · have hq : chkT l = 3 := by unfold chkT; rw [if_pos (.inr c2)]
        have c2' : (4096 : Int) < (l.length : Int) := by omega
        rw [hq]
        clear hv HO e h0 hq
        go_enter Try.func7, Try.ntmps7
        go_wp2
        go_ret2
        exact ⟨none, 0, 0, rfl, rfl, OwnB.nil _ _, Below.refl _ _⟩
      · have c2' : ¬ (4096 : Int) < (l.length : Int) := by omega
        have hq : chkT l = ordE none l := by unfold chkT; rw [if_neg (by omega)]
        rw [hq] at h0 ⊢
        clear hv e hq
        generalize ordE none l = q at *
        have hq1 : (q == 0) = false := by simp [h0]
        have hq2 : (q != 0) = true := by simp [h0]
        go_enter Try.func7, Try.ntmps7
        go_wp2_with fail
        refine HO.out.mono ?_
        rintro e w1 ⟨rfl, b1⟩
        go_wp2
        go_ret2
        exact ⟨none, 0, 0, rfl, rfl, OwnB.nil _ _, b1⟩
end Go.Proofs.Ytekoniaobmapdab
