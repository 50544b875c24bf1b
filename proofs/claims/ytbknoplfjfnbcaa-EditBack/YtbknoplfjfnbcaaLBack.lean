/- EditBack: there and back. -/
import Derived.Test.YtbknoplfjfnbcaaNEnc
import Derived.Test.YtbknoplfjfnbcaaDDec
import Derived.Test.YtbknoplfjfnbcaaLOf
import Derived.Test.YtbknoplfjfnbcaaELaw2
import Derived.Test.YtbknoplfjfnbcaaAAt
namespace Go.Proofs.Ytbknoplfjfnbcaa
open Go.RowKit
set_option linter.unusedVariables false
set_option linter.unusedSimpArgs false

theorem Octs.len {w : World} {v : Value} {l : List Int} (h : Octs w v l) : ∃ a cap, v = .slice a l.length cap ∧ l.length ≤ cap ∧ l.length ≤ maxLen := by
  obtain ⟨_, h⟩ := h
  rcases h with ⟨rfl, a, cap, rfl, _⟩ | ⟨hn, b, off, cap, rfl, hc, hm, hj⟩
  · exact ⟨a, cap, rfl, Nat.zero_le _, Nat.zero_le _⟩
  · exact ⟨_, cap, rfl, hc, by omega⟩
theorem same25_any (l1 l2 : List Int) (v1 v2 : Value) (w : World) (h1 : Octs w v1 l1) (h2 : Octs w v2 l2) :
    Calls Try.prog 25 #[v1, v2] w fun e w' => e = .returned (.bool (decide (l1 = l2))) ∧ w' = w := by
  have k1 := run_convert_octs l1 v1 w h1
  have k2 := run_convert_octs l2 v2 w h2
  have H : Hid (((strOfNums l1).toList == (strOfNums l2).toList) = decide (l1 = l2)) := str_eq l1 l2 h1.1 h2.1
  go_enter Try.func25, Try.ntmps25
  go_wp2
  go_ret
  exact ⟨ret_bool H.out, rfl⟩
theorem oct_app {a b : List Int} (ha : OctA a) (hb : OctA b) : OctA (a ++ b) := fun y hy => (List.mem_append.1 hy).elim (ha y) (hb y)
theorem octets_oct {n : Int} (h : numE n = true) : OctA (octets n) := by
  obtain ⟨h0, h1⟩ := numE_iff.1 h
  have hc := size_cases n h0 (by omega)
  unfold octets
  intro y hy
  rcases hc with ⟨hs, ha, hb⟩ | ⟨hs, ha, hb⟩ | ⟨hs, ha, hb⟩ | ⟨hs, ha, hb⟩ | ⟨hs, ha, hb⟩ | ⟨hs, ha, hb⟩ | ⟨hs, ha, hb⟩ | ⟨hs, ha, hb⟩ | ⟨hs, ha, hb⟩ <;>
    (rw [hs] at hy; simp [octs] at hy; omega)
theorem oct_idsO : ∀ {l : List Int}, (∀ i ∈ l, numE i = true) → OctA (idsO l)
  | [], _ => fun y hy => by cases hy
  | x :: r, h => oct_app (octets_oct (h x (List.mem_cons_self))) (oct_idsO (fun i hi => h i (List.mem_cons_of_mem _ hi)))
theorem oct_txt {s : ByteArray} (h : s.size ≤ 96) : OctA (txtE s) := oct_app (octets_oct (numE_iff.2 (by omega))) (nums_octet s)
theorem oct_met {m : Me} (h : metE m = true) : OctA (metO m) := by
  obtain ⟨h0, h1, h2, h3, h4⟩ := metE_iff.1 h
  exact oct_app (octets_oct (numE_iff.2 h0)) (oct_app (octets_oct (numE_iff.2 h1)) (oct_app (octets_oct (numE_iff.2 h2)) (oct_app (oct_txt h3) (oct_txt h4))))
theorem oct_metsO : ∀ {l : List Me}, (∀ m ∈ l, metE m = true) → OctA (metsO l)
  | [], _ => fun y hy => by cases hy
  | x :: r, h => oct_app (oct_met (h x (List.mem_cons_self))) (oct_metsO (fun i hi => h i (List.mem_cons_of_mem _ hi)))
theorem oct_enc {s x : Int} {is : List Int} {ms : List Me} (h : (encE s x is ms).2 = 0) : OctA (encE s x is ms).1 := by
  obtain ⟨h1, h2, h3, h4, h5, h6⟩ := encE_zero.1 h
  rw [encE_good h]
  exact oct_app (octets_oct h3) (oct_app (octets_oct h4) (oct_app (octets_oct (numE_iff.2 (by omega))) (oct_app (oct_idsO h5) (oct_app (octets_oct (numE_iff.2 (by omega))) (oct_metsO h6)))))

set_option maxHeartbeats 8000000 in
set_option maxRecDepth 100000 in
theorem back_walk (drop : List Int) (add : List Me) (seq next : Int) (l : List Int) (da aa ba : Option Addr) (dn dc an ac bn bc : Nat) (W : World) (hd : IntsR W (.slice da dn dc) drop) (ha : MetsR W (.slice aa an ac) add) (hdl : drop.length ≤ 17592186044416) (hal : add.length ≤ 4000000000000) (hb : Octs W (.slice ba bn bc) l) :
    Calls Try.prog 4 #[.agg #[.slice da dn dc, .slice aa an ac, .int .i64 seq, .int .i64 next], .slice ba bn bc] W fun e w' => e = .returned (.bool true) ∧ Below W.heap.size W w' := by
  have HDR : Hid (IntsR W (.slice da dn dc) drop) := hd
  have HAR : Hid (MetsR W (.slice aa an ac) add) := ha
  have HOB : Hid (Octs W (.slice ba bn bc) l) := hb
  have HLL : Hid (drop.length ≤ 17592186044416 ∧ add.length ≤ 4000000000000) := ⟨hdl, hal⟩
  have HNU : Hid (∀ n W, Calls Try.prog 17 #[.int .i64 n] W fun e w' => e = .returned (.int .i64 n) ∧ w' = W) := num_any
  have HAL : Hid (∀ W : World, Calls Try.prog 22 #[] W fun e w' => e = .returned (.bool true) ∧ Hid (Below W.heap.size W w')) := alive_any
  clear hd ha hb hdl hal
  have BN : Hid ((W.alloc (.cells #[.slice da dn dc, .slice aa an ac, .int .i64 seq, .int .i64 next] 27)).heap[W.heap.size]? = some (.cells #[.slice da dn dc, .slice aa an ac, .int .i64 seq, .int .i64 next] 27)) := blk_new _ _
  have UB : Hid (Below W.heap.size W (W.alloc (.cells #[.slice da dn dc, .slice aa an ac, .int .i64 seq, .int .i64 next] 27))) := up_alloc _ _
  obtain ⟨w1, hw1⟩ : ∃ w1, W.alloc (.cells #[.slice da dn dc, .slice aa an ac, .int .i64 seq, .int .i64 next] 27) = w1 := ⟨_, rfl⟩
  rw [hw1] at BN UB
  have HW1 : Hid (W.alloc (.cells #[.slice da dn dc, .slice aa an ac, .int .i64 seq, .int .i64 next] 27) = w1) := hw1
  clear hw1
  go_enter Try.func4, Try.ntmps4
  go_upto_region 1 with fail
  rw [HW1.out]
  clear HW1
  go_wp2_with fail
  refine (HAL.out _).mono ?_
  rintro e w2 ⟨rfl, u2⟩
  replace BN := hid (blk_up BN.out u2.out)
  have U2 := hid (up_trans UB.out u2.out)
  clear u2 UB
  have c0 := blk_cell BN.out 0 _ rfl
  have c1 := blk_cell BN.out 1 _ rfl
  have c2 := blk_cell BN.out 2 _ rfl
  have c3 := blk_cell BN.out 3 _ rfl
  have TO := hid (ofEdit_any drop add seq next da aa dn dc an ac w2 (HDR.out.up U2.out) (HAR.out.up U2.out) HLL.out.1 HLL.out.2)
  go_wp2_with fail
  refine TO.out.mono ?_
  rintro e w3 ⟨a1, n1, d1, a2, n2, d2, rfl, O1, O2, u3⟩
  replace BN := hid (blk_up BN.out u3.out)
  have U3 := hid (up_trans U2.out u3.out)
  have TE := hid (encode_any seq next drop add _ _ w3 (Rws.own O1.out) O2.out.read)
  clear u3 U2 TO O1 O2 c0 c1 c2 c3
  go_wp2_with fail
  refine TE.out.mono ?_
  rintro e w4 ⟨xa, xn, xc, rfl, OX, u4⟩
  replace BN := hid (blk_up BN.out u4.out)
  have U := hid (up_trans U3.out u4.out)
  clear u4 U3 TE
  by_cases hz : (encE seq next drop add).2 = 0
  · have HDE := hid (dec_encE hz)
    have HOC := hid (oct_enc hz)
    rw [hz]
    obtain ⟨L, hL⟩ : ∃ L, (encE seq next drop add).1 = L := ⟨_, rfl⟩
    rw [hL] at OX HDE HOC
    clear hL hz
    have TD := hid (decode_any L xa xn xc w4 (Octs.own OX.out HOC.out))
    clear OX HOC
    go_wp2_with fail
    refine (HNU.out _ _).mono ?_
    rintro e w' ⟨rfl, rfl⟩
    go_wp2_with fail
    refine TD.out.mono ?_
    rintro e w5 ⟨pd, pe, pf, pg, ph, pi, ps, px, y, pids, pms, rfl, OD, OM, UD, DS⟩
    rcases DS.out with ⟨rfl, hd⟩ | ⟨_, hd, _⟩
    rotate_left
    · rw [HDE.out] at hd; cases hd
    rw [HDE.out] at hd
    simp only [Except.ok.injEq, Prod.mk.injEq] at hd
    obtain ⟨rfl, rfl, rfl, rfl⟩ := hd
    clear DS HDE TD
    have BP : Hid ((w5.alloc (.cells #[.slice pd pe pf, .slice pg ph pi, .int .i64 seq, .int .i64 next] 33)).heap[w5.heap.size]? = some (.cells #[.slice pd pe pf, .slice pg ph pi, .int .i64 seq, .int .i64 next] 33)) := blk_new _ _
    have UP : Hid (Below w5.heap.size w5 (w5.alloc (.cells #[.slice pd pe pf, .slice pg ph pi, .int .i64 seq, .int .i64 next] 33))) := up_alloc _ _
    replace BN := hid (blk_up (blk_up BN.out UD.out) UP.out)
    replace U : Hid (Below W.heap.size W (w5.alloc (.cells #[.slice pd pe pf, .slice pg ph pi, .int .i64 seq, .int .i64 next] 33))) := up_al (up_trans U.out UD.out) _
    replace OD := hid (OD.out.up UP.out)
    replace OM := hid (OM.out.up UP.out)
    obtain ⟨w6, hw6⟩ : ∃ w6, w5.alloc (.cells #[.slice pd pe pf, .slice pg ph pi, .int .i64 seq, .int .i64 next] 33) = w6 := ⟨_, rfl⟩
    rw [hw6] at BP U OD OM BN
    have HW6 : Hid (w5.alloc (.cells #[.slice pd pe pf, .slice pg ph pi, .int .i64 seq, .int .i64 next] 33) = w6) := hw6
    clear hw6 UD UP
    go_upto_region 6 with fail
    rw [HW6.out]
    clear HW6
    generalize w5.heap.size = NP at *
    have p0 := blk_cell BP.out 0 _ rfl
    have p1 := blk_cell BP.out 1 _ rfl
    have p2 := blk_cell BP.out 2 _ rfl
    have p3 := blk_cell BP.out 3 _ rfl
    have c0 := blk_cell BN.out 0 _ rfl
    have c1 := blk_cell BN.out 1 _ rfl
    have c2 := blk_cell BN.out 2 _ rfl
    have c3 := blk_cell BN.out 3 _ rfl
    have TS := hid (sameEdit_self drop add seq next pd pg da aa pe pf ph pi dn dc an ac w6 (Rws.own OD.out) (HDR.out.up U.out) (Rws.own OM.out) (HAR.out.up U.out))
    clear OD OM
    go_wp2_with fail
    refine (HNU.out _ _).mono ?_
    rintro e w' ⟨rfl, rfl⟩
    go_wp2_with fail
    refine TS.out.mono ?_
    rintro e w7 ⟨rfl, u7⟩
    replace U := hid (up_trans U.out u7.out)
    clear u7 TS p0 p1 p2 p3 c0 c1 c2 c3 BP BN
    have TD := hid (decode_any l ba bn bc w7 (HOB.out.up U.out))
    go_wp2_with fail
    refine TD.out.mono ?_
    rintro e t1 ⟨yd, ye, yf, yg, yh, yi, ys, yx, y, yids, yms, rfl, OD, OM, UD, DS⟩
    have BY : Hid ((t1.alloc (.cells #[.slice yd ye yf, .slice yg yh yi, .int .i64 ys, .int .i64 yx] 33)).heap[t1.heap.size]? = some (.cells #[.slice yd ye yf, .slice yg yh yi, .int .i64 ys, .int .i64 yx] 33)) := blk_new _ _
    have U2 : Hid (Below W.heap.size W (t1.alloc (.cells #[.slice yd ye yf, .slice yg yh yi, .int .i64 ys, .int .i64 yx] 33))) := up_al (up_trans U.out UD.out) _
    have OD2 := hid (OD.out.up (up_alloc t1 (.cells #[.slice yd ye yf, .slice yg yh yi, .int .i64 ys, .int .i64 yx] 33)))
    have OM2 := hid (OM.out.up (up_alloc t1 (.cells #[.slice yd ye yf, .slice yg yh yi, .int .i64 ys, .int .i64 yx] 33)))
    obtain ⟨t2, ht2⟩ : ∃ t2, t1.alloc (.cells #[.slice yd ye yf, .slice yg yh yi, .int .i64 ys, .int .i64 yx] 33) = t2 := ⟨_, rfl⟩
    rw [ht2] at BY U2 OD2 OM2
    have HT2 : Hid (t1.alloc (.cells #[.slice yd ye yf, .slice yg yh yi, .int .i64 ys, .int .i64 yx] 33) = t2) := ht2
    clear ht2 OD OM UD U TD
    go_upto_region 9 with fail
    rw [HT2.out]
    clear HT2
    generalize t1.heap.size = NY at *
    have y0 := blk_cell BY.out 0 _ rfl
    have y1 := blk_cell BY.out 1 _ rfl
    have y2 := blk_cell BY.out 2 _ rfl
    have y3 := blk_cell BY.out 3 _ rfl
    rcases DS.out with ⟨rfl, hd⟩ | ⟨hy, hd, rfl, rfl, rfl, rfl⟩
    · have HE := hid (enc_decE HOB.out.1 hd)
      have TE := hid (encode_any ys yx yids yms _ _ t2 (Rws.own OD2.out) (Rws.own OM2.out))
      rw [HE.out] at TE
      simp only at TE
      clear HE hd DS
      go_wp2_with fail
      refine (HNU.out _ _).mono ?_
      rintro e w' ⟨rfl, rfl⟩
      go_wp2_with fail
      refine TE.out.mono ?_
      rintro e t3 ⟨za, zn, zc, rfl, OZ, UZ⟩
      have TS := hid (same25_any l l _ _ t3 (Octs.own OZ.out HOB.out.1) ((HOB.out.up U2.out).up UZ.out))
      have UF := hid (up_trans U2.out UZ.out)
      rw [decide_eq_true (rfl : l = l)] at TS
      clear OZ UZ TE U2 y0 y1 y2 y3
      go_wp2_with fail
      refine (HNU.out _ _).mono ?_
      rintro e w' ⟨rfl, rfl⟩
      go_wp2_with fail
      refine TS.out.mono ?_
      rintro e w' ⟨rfl, rfl⟩
      go_wp2_with fail
      go_ret
      exact ⟨rfl, UF.out⟩
    · obtain ⟨qa, qc, qe, _, _⟩ := (Rws.own OD2.out).len
      obtain ⟨ra, rc, re, _, _⟩ := (Rws.own OM2.out).len
      simp only [List.map_nil, List.length_nil, Value.slice.injEq] at qe re
      obtain ⟨rfl, rfl, rfl⟩ := qe
      obtain ⟨rfl, rfl, rfl⟩ := re
      have hy' : (y == 0) = false := by simp [hy]
      clear hy hd DS OD2 OM2
      go_wp2_with fail
      refine (HNU.out _ _).mono ?_
      rintro e w' ⟨rfl, rfl⟩
      go_wp2_with fail
      go_ret
      exact ⟨rfl, U2.out⟩
  · have hz' : ((encE seq next drop add).2 == 0) = false := by simp [hz]
    clear hz OX
    generalize (encE seq next drop add).2 = fz at *
    go_wp2_with fail
    refine (HNU.out _ _).mono ?_
    rintro e w' ⟨rfl, rfl⟩
    have TD := hid (decode_any l ba bn bc w' (HOB.out.up U.out))
    go_wp2_with fail
    refine TD.out.mono ?_
    rintro e t1 ⟨yd, ye, yf, yg, yh, yi, ys, yx, y, yids, yms, rfl, OD, OM, UD, DS⟩
    have BY : Hid ((t1.alloc (.cells #[.slice yd ye yf, .slice yg yh yi, .int .i64 ys, .int .i64 yx] 33)).heap[t1.heap.size]? = some (.cells #[.slice yd ye yf, .slice yg yh yi, .int .i64 ys, .int .i64 yx] 33)) := blk_new _ _
    have U2 : Hid (Below W.heap.size W (t1.alloc (.cells #[.slice yd ye yf, .slice yg yh yi, .int .i64 ys, .int .i64 yx] 33))) := up_al (up_trans U.out UD.out) _
    have OD2 := hid (OD.out.up (up_alloc t1 (.cells #[.slice yd ye yf, .slice yg yh yi, .int .i64 ys, .int .i64 yx] 33)))
    have OM2 := hid (OM.out.up (up_alloc t1 (.cells #[.slice yd ye yf, .slice yg yh yi, .int .i64 ys, .int .i64 yx] 33)))
    obtain ⟨t2, ht2⟩ : ∃ t2, t1.alloc (.cells #[.slice yd ye yf, .slice yg yh yi, .int .i64 ys, .int .i64 yx] 33) = t2 := ⟨_, rfl⟩
    rw [ht2] at BY U2 OD2 OM2
    have HT2 : Hid (t1.alloc (.cells #[.slice yd ye yf, .slice yg yh yi, .int .i64 ys, .int .i64 yx] 33) = t2) := ht2
    clear ht2 OD OM UD U TD
    go_upto_region 9 with fail
    rw [HT2.out]
    clear HT2
    generalize t1.heap.size = NY at *
    have y0 := blk_cell BY.out 0 _ rfl
    have y1 := blk_cell BY.out 1 _ rfl
    have y2 := blk_cell BY.out 2 _ rfl
    have y3 := blk_cell BY.out 3 _ rfl
    rcases DS.out with ⟨rfl, hd⟩ | ⟨hy, hd, rfl, rfl, rfl, rfl⟩
    · have HE := hid (enc_decE HOB.out.1 hd)
      have TE := hid (encode_any ys yx yids yms _ _ t2 (Rws.own OD2.out) (Rws.own OM2.out))
      rw [HE.out] at TE
      simp only at TE
      clear HE hd DS
      go_wp2_with fail
      refine (HNU.out _ _).mono ?_
      rintro e w' ⟨rfl, rfl⟩
      go_wp2_with fail
      refine TE.out.mono ?_
      rintro e t3 ⟨za, zn, zc, rfl, OZ, UZ⟩
      have TS := hid (same25_any l l _ _ t3 (Octs.own OZ.out HOB.out.1) ((HOB.out.up U2.out).up UZ.out))
      have UF := hid (up_trans U2.out UZ.out)
      rw [decide_eq_true (rfl : l = l)] at TS
      clear OZ UZ TE U2 y0 y1 y2 y3
      go_wp2_with fail
      refine (HNU.out _ _).mono ?_
      rintro e w' ⟨rfl, rfl⟩
      go_wp2_with fail
      refine TS.out.mono ?_
      rintro e w' ⟨rfl, rfl⟩
      go_wp2_with fail
      go_ret
      exact ⟨rfl, UF.out⟩
    · obtain ⟨qa, qc, qe, _, _⟩ := (Rws.own OD2.out).len
      obtain ⟨ra, rc, re, _, _⟩ := (Rws.own OM2.out).len
      simp only [List.map_nil, List.length_nil, Value.slice.injEq] at qe re
      obtain ⟨rfl, rfl, rfl⟩ := qe
      obtain ⟨rfl, rfl, rfl⟩ := re
      have hy' : (y == 0) = false := by simp [hy]
      clear hy hd DS OD2 OM2
      go_wp2_with fail
      refine (HNU.out _ _).mono ?_
      rintro e w' ⟨rfl, rfl⟩
      go_wp2_with fail
      go_ret
      exact ⟨rfl, U2.out⟩
end Go.Proofs.Ytbknoplfjfnbcaa
