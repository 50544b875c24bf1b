/- Texts of layers 1 to 13, in this order. -/
import Derived.Test.YthiegmhplnbdlaaGreatG46
import Derived.Test.YthiegmhplnbdlaaGreatG22
import Derived.Test.YthiegmhplnbdlaaGreatG45
import Derived.Test.YthiegmhplnbdlaaGreatG31
import Derived.Test.YthiegmhplnbdlaaGreatBHas
import Derived.Test.YthiegmhplnbdlaaGreatG25

namespace Go.Proofs.YthiegmhplnbdlaaGreat
open Go.RowKit SumPlain
set_option linter.unusedVariables false
set_option linter.unusedSimpArgs false
set_option maxRecDepth 100000 in
theorem fitT_any (x : En) (key : ByteArray) (seq : Int) (NK NS : Nat) (w : World) (hk : w.cell? ⟨NK, 0, none⟩ = some (.string key)) (hs : w.cell? ⟨NS, 0, none⟩ = some (.int .i64 seq)) :
    Calls Tryz.prog 47 #[enV x, .pointer (some ⟨NK, 0, none⟩), .pointer (some ⟨NS, 0, none⟩)] w fun e w' => e = .returned (.bool (fitE key seq x)) ∧ Below w.heap.size w w' := by
  have hk2 := cellAl hk (enObj x)
  have hs2 := cellAl hs (enObj x)
  unfold enObj at hk2 hs2
  unfold enV fitE
  cases q1 : (x.key.toList == key.toList)
  · go_enter Tryz.func47, Tryz.ntmps47
    go_wp2
    go_ret
    exact ⟨rfl, up_alloc _ _⟩
  · by_cases q2 : x.seq ≤ seq
    · have q3 : decide (x.seq ≤ seq) = true := by simp [q2]
      go_enter Tryz.func47, Tryz.ntmps47
      go_wp2
      go_ret
      exact ⟨by simp [q2], up_alloc _ _⟩
    · have q3 : decide (x.seq ≤ seq) = false := by simp [q2]
      go_enter Tryz.func47, Tryz.ntmps47
      go_wp2
      go_ret
      exact ⟨by simp [q2], up_alloc _ _⟩
def IdxT (l : List En) (key : ByteArray) (seq : Int) (r : Int) : Prop := (r = -1 ∧ firstF l key seq = none) ∨ ∃ (k : Nat) (y : En), r = (k : Int) ∧ l[k]? = some y ∧ firstF l key seq = some y
set_option maxHeartbeats 1000000 in
set_option maxRecDepth 100000 in
theorem indexT_any (l : List En) (v : Value) (key : ByteArray) (seq : Int) (NK NS : Nat) (w : World) (hv : EntsR w v l) (hk : w.cell? ⟨NK, 0, none⟩ = some (.string key)) (hs : w.cell? ⟨NS, 0, none⟩ = some (.int .i64 seq)) :
    Calls Tryz.prog 46 #[v, .func (.func 47) #[] #[.pointer (some ⟨NK, 0, none⟩), .pointer (some ⟨NS, 0, none⟩)]] w fun e w' => ∃ r, e = .returned (.int .i64 r) ∧ Hid (IdxT l key seq r) ∧ Hid (Below w.heap.size w w') := by
  have HV : Hid (EntsR w v l ∧ w.cell? ⟨NK, 0, none⟩ = some (.string key) ∧ w.cell? ⟨NS, 0, none⟩ = some (.int .i64 seq)) := ⟨hv, hk, hs⟩
  obtain ⟨a, cap, rfl, hcap, hmax⟩ := hv.len
  clear hv hs hk
  unfold maxLen at hmax
  go_enter Tryz.func46, Tryz.ntmps46
  go_wp2_with fail
  go_loopw [8] (fun i wr => ∃ k : Nat, k ≤ l.length ∧ i = .int .i64 k ∧ Hid (firstF (l.drop k) key seq = firstF l key seq) ∧ Hid (Below w.heap.size w wr)) (fun i _ => l.length - (intOf i).toNat)
  case atStart => exact ⟨0, Nat.zero_le _, rfl, by simp [Hid], Below.refl _ _⟩
  case round =>
    obtain ⟨k, hk, rfl, HK, up⟩ := hrel
    by_cases hlt : k < l.length
    · have hlt' : (k : Int) < (l.length : Int) := by omega
      obtain ⟨b, off, cap', y, e, hy, c0, c1, c2, c3⟩ := (HV.out.1.up up.out).at k hlt
      simp at e
      obtain ⟨rfl, rfl⟩ := e
      have HD : Hid (firstF (l.drop k) key seq = if ((y.key.toList == key.toList) && decide (y.seq ≤ seq)) = true then some y else firstF (l.drop (k + 1)) key seq) := firstF_drop (key := key) (seq := seq) hy
      have HY : Hid (l[k]? = some y) := hy
      have HC := hid (fitT_any y key seq NK NS wr ((up.out.cell (World.block_lt_of_cell? w _ HV.out.2.1)).trans HV.out.2.1) ((up.out.cell (World.block_lt_of_cell? w _ HV.out.2.2)).trans HV.out.2.2))
      unfold enV at HC
      clear hy
      cases d : fitE key seq y with
      | true =>
        have HM : Hid (IdxT l key seq (k : Int)) := by
          have d' : ((y.key.toList == key.toList) && decide (y.seq ≤ seq)) = true := d
          refine .inr ⟨k, y, rfl, HY.out, ?_⟩
          rw [← HK.out, HD.out, if_pos d']
        rw [d] at HC
        clear d
        go_wp2_with fail
        refine HC.out.mono ?_
        rintro e w1 ⟨rfl, hb1⟩
        have up1 : Hid (Below w.heap.size w w1) := up_trans up.out hb1
        clear hb1
        go_wp2_with fail
        go_ret
        exact ⟨_, rfl, HM, up1⟩
      | false =>
        have HK2 : Hid (firstF (l.drop (k + 1)) key seq = firstF l key seq) := by
          have d' : ((y.key.toList == key.toList) && decide (y.seq ≤ seq)) = false := d
          unfold Hid
          rw [← HK.out, HD.out, if_neg (by rw [d']; simp)]
        rw [d] at HC
        clear d
        go_wp2_with fail
        refine HC.out.mono ?_
        rintro e w1 ⟨rfl, hb1⟩
        have up1 : Hid (Below w.heap.size w w1) := up_trans up.out hb1
        clear hb1
        go_wp2_with fail
        exact ⟨⟨k + 1, by omega, by go_num, HK2, up1⟩, by simp [intOf]; omega⟩
    · have hlt' : ¬ (k : Int) < (l.length : Int) := by omega
      obtain rfl : k = l.length := by omega
      have HM : Hid (IdxT l key seq (-1)) := by
        refine .inl ⟨rfl, ?_⟩
        rw [← HK.out, List.drop_length]
        rfl
      go_wp2_with fail
      go_ret
      exact ⟨_, rfl, HM, up⟩
set_option maxHeartbeats 1000000 in
set_option maxRecDepth 100000 in
theorem get_any10 (B : List Int) (va : Option Addr) (vn vc : Nat) (key : ByteArray) (seq : Int) (w : World) (hvn : vn = B.length) (hv : Octs w (.slice va vn vc) B) (hl : vn ≤ 140737488351232) :
    Calls Tryz.prog 20 #[.slice va vn vc, .string key, .int .i64 seq] w fun e w' => e = .returned (.tuple #[enV (getT B key seq).1, .bool (getT B key seq).2.1, .int .i64 (getT B key seq).2.2]) ∧ Hid (Below w.heap.size w w') := by
  obtain ⟨wa, hwa⟩ : ∃ wa, wa = ((w.alloc (.cells #[.string key] 9)).alloc (.cells #[.int .i64 seq] 3)).alloc (.cells #[.string ⟨#[]⟩, .int .i64 0, .int .i64 0, .string ⟨#[]⟩] 50) := ⟨_, rfl⟩
  have HWA : Hid (((w.alloc (.cells #[.string key] 9)).alloc (.cells #[.int .i64 seq] 3)).alloc (.cells #[.string ⟨#[]⟩, .int .i64 0, .int .i64 0, .string ⟨#[]⟩] 50) = wa) := hwa.symm
  have HB : Hid (Below w.heap.size w wa ∧ wa.heap[w.heap.size + 1 + 1]? = some (.cells #[.string ⟨#[]⟩, .int .i64 0, .int .i64 0, .string ⟨#[]⟩] 50) ∧ wa.heap[w.heap.size]? = some (.cells #[.string key] 9) ∧ wa.heap[w.heap.size + 1]? = some (.cells #[.int .i64 seq] 3)) := by
    rw [hwa]
    refine ⟨up_al (up_al (up_alloc _ _) _) _, ?_, blk_up (blk_new _ _) (up_al (up_alloc _ _) _), ?_⟩
    · have := blk_new ((w.alloc (.cells #[.string key] 9)).alloc (.cells #[.int .i64 seq] 3)) (.cells #[.string ⟨#[]⟩, .int .i64 0, .int .i64 0, .string ⟨#[]⟩] 50)
      have e : ((w.alloc (.cells #[.string key] 9)).alloc (.cells #[.int .i64 seq] 3)).heap.size = w.heap.size + 1 + 1 := by simp
      rw [e] at this
      exact this
    · have := blk_new (w.alloc (.cells #[.string key] 9)) (.cells #[.int .i64 seq] 3)
      have e : (w.alloc (.cells #[.string key] 9)).heap.size = w.heap.size + 1 := by simp
      rw [e] at this
      exact blk_up this (up_alloc _ _)
  have HC := open_any B va vn vc wa hvn (hv.up HB.out.1) hl
  clear hwa hv hvn hl
  have HEND : Hid (∀ (wz : World) (y : En) (b : Bool) (code : Int), Below w.heap.size w wz → wz.heap[w.heap.size + 1 + 1]? = some (.cells #[.string ⟨#[]⟩, .int .i64 0, .int .i64 0, .string ⟨#[]⟩] 50) → getT B key seq = (y, b, code) →
      ((((wz.setCell ⟨w.heap.size + 1 + 1, 0, none⟩ (.string y.key)).setCell ⟨w.heap.size + 1 + 1, 1, none⟩ (.int .i64 y.seq)).setCell ⟨w.heap.size + 1 + 1, 2, none⟩ (.int .i64 y.kind)).setCell ⟨w.heap.size + 1 + 1, 3, none⟩ (.string y.val)).heap[w.heap.size + 1 + 1]? = some (.cells #[.string y.key, .int .i64 y.seq, .int .i64 y.kind, .string y.val] 50) ∧
      (Ending.returned (.tuple #[.agg #[.string y.key, .int .i64 y.seq, .int .i64 y.kind, .string y.val], .bool b, .int .i64 code]) = .returned (.tuple #[enV (getT B key seq).1, .bool (getT B key seq).2.1, .int .i64 (getT B key seq).2.2]) ∧ Hid (Below w.heap.size w ((((wz.setCell ⟨w.heap.size + 1 + 1, 0, none⟩ (.string y.key)).setCell ⟨w.heap.size + 1 + 1, 1, none⟩ (.int .i64 y.seq)).setCell ⟨w.heap.size + 1 + 1, 2, none⟩ (.int .i64 y.kind)).setCell ⟨w.heap.size + 1 + 1, 3, none⟩ (.string y.val))))) := by
    intro wz y b code hb h27 he
    refine ⟨set4_blk h27 _ _ _ _, by rw [he]; rfl, ?_⟩
    exact hb.grown (set4_grown wz (w.heap.size + 1 + 1) _ _ _ _) hb.size (fun k hk => by injection hk with hk; omega)
  go_enter Tryz.func20, Tryz.ntmps20
  go_upto_region 1 with fail
  rw [HWA.out]
  clear HWA
  go_wp2_with fail
  refine HC.mono ?_
  rintro e w0 ⟨a, n, c, fa, fn, fc, rfl, HLL, HFF, U0⟩
  obtain ⟨w1, hw1⟩ : ∃ w1, w1 = w0.alloc (.cells #[.slice a n c, .int .i64 (openB B).2.1.1, .slice fa fn fc] 59) := ⟨_, rfl⟩
  have HW1 : Hid (w0.alloc (.cells #[.slice a n c, .int .i64 (openB B).2.1.1, .slice fa fn fc] 59) = w1) := hw1.symm
  have BT : Hid (w1.heap[w0.heap.size]? = some (.cells #[.slice a n c, .int .i64 (openB B).2.1.1, .slice fa fn fc] 59)) := by rw [hw1]; exact blk_new _ _
  have UA : Hid (Below w0.heap.size w0 w1) := by rw [hw1]; exact up_alloc _ _
  have HN : Hid (n = (openB B).1.length) := HLL.out.1
  have HL : Hid (OwnR w1 wa.heap.size 50 4 (.slice a n c) ((openB B).1.map enRow)) := HLL.out.2.up UA.out
  have U1 : Hid (Below wa.heap.size wa w1) := up_trans U0.out UA.out
  clear hw1 HLL HFF U0 UA
  have HB1 : Hid (Below w.heap.size w w1 ∧ w1.heap[w.heap.size + 1 + 1]? = some (.cells #[.string ⟨#[]⟩, .int .i64 0, .int .i64 0, .string ⟨#[]⟩] 50)) := ⟨up_trans HB.out.1 U1.out, blk_up HB.out.2.1 U1.out⟩
  have HKS : Hid (w1.cell? ⟨w.heap.size, 0, none⟩ = some (.string key) ∧ w1.cell? ⟨w.heap.size + 1, 0, none⟩ = some (.int .i64 seq)) := ⟨blk_cell (blk_up HB.out.2.2.1 U1.out) 0 _ rfl, blk_cell (blk_up HB.out.2.2.2 U1.out) 0 _ rfl⟩
  clear HC HB U1
  have k0 := blk_cell BT.out 0 _ rfl
  by_cases hG : (openB B).2.2 = 0
  · rw [hG]
    have HGV : Hid (getT B key seq = ((firstV (openB B).1 key seq).1, (firstV (openB B).1 key seq).2, 0)) := by
      unfold Hid getT
      rw [if_pos hG]
    have HLR : Hid (EntsR w1 (.slice a n c) (openB B).1) := Rws.own HL.out
    have HF := indexT_any (openB B).1 _ key seq w.heap.size (w.heap.size + 1) w1 HLR.out HKS.out.1 HKS.out.2
    clear hG HL
    generalize (openB B).1 = L at *
    generalize (openB B).2.1.1 = fk at *
    go_upto_region 2 with fail
    rw [HW1.out]
    have hnm : n ≤ 9223372036854775807 := by
      obtain ⟨_, _, e, h4, h5⟩ := HLR.out.len
      unfold maxLen at h5
      rw [HN.out]
      omega
    go_wp2_with fail
    refine HF.mono ?_
    rintro e w2 ⟨r, rfl, HI, U2⟩
    clear HF
    have HB2 : Hid (Below w.heap.size w w2 ∧ w2.heap[w.heap.size + 1 + 1]? = some (.cells #[.string ⟨#[]⟩, .int .i64 0, .int .i64 0, .string ⟨#[]⟩] 50)) := ⟨up_trans HB1.out.1 U2.out, blk_up HB1.out.2 U2.out⟩
    have HL2 : Hid (EntsR w2 (.slice a n c) L) := HLR.out.up U2.out
    have k2 := blk_cell (blk_up BT.out U2.out) 0 _ rfl
    clear k0
    have d0 : w2.cell? ⟨w.heap.size + 1 + 1, 0, none⟩ = some (.string ⟨#[]⟩) := blk_cell HB2.out.2 0 _ rfl
    have d1 : w2.cell? ⟨w.heap.size + 1 + 1, 1, none⟩ = some (.int .i64 0) := blk_cell HB2.out.2 1 _ rfl
    have d2 : w2.cell? ⟨w.heap.size + 1 + 1, 2, none⟩ = some (.int .i64 0) := blk_cell HB2.out.2 2 _ rfl
    have d3 : w2.cell? ⟨w.heap.size + 1 + 1, 3, none⟩ = some (.string ⟨#[]⟩) := blk_cell HB2.out.2 3 _ rfl
    have f0 := fun k => blk_frozen HB2.out.2 k
    rcases HI.out with ⟨rfl, hf⟩ | ⟨k, y, rfl, hy, hf⟩
    · have HGE : Hid (getT B key seq = (default, false, 0)) := by
        have := HGV.out
        unfold firstV at this
        rw [hf] at this
        exact this
      clear hf
      go_wp2_with fail
      obtain ⟨hz1, hz2⟩ := HEND.out w2 default false 0 HB2.out.1 HB2.out.2 HGE.out
      exact bodyPost_ret (results_ent3 (q := 6) (r := 7) (u := 8) rfl _ _ rfl hz1) rfl hz2
    · have HGE : Hid (getT B key seq = (y, true, 0)) := by
        have := HGV.out
        unfold firstV at this
        rw [hf] at this
        exact this
      have hkl := (List.getElem?_eq_some_iff.1 hy).1
      obtain ⟨b, off, cap, y', e, hy', z0, z1, z2, z3⟩ := HL2.out.at k hkl
      simp only [Value.slice.injEq] at e
      obtain ⟨rfl, _, rfl⟩ := e
      obtain rfl : y = y' := by rw [hy] at hy'; injection hy'
      have hk1 : ¬ (k : Int) < 0 := by omega
      have hk2 : (0 : Int) ≤ (k : Int) := by omega
      have hk3 : (k : Int) < (n : Int) := by rw [HN.out]; omega
      clear hf hy hy'
      go_wp2_with fail
      obtain ⟨hz1, hz2⟩ := HEND.out w2 y true 0 HB2.out.1 HB2.out.2 HGE.out
      exact bodyPost_ret (results_ent3 (q := 6) (r := 7) (u := 8) rfl _ _ rfl hz1) rfl hz2
  · have HE : Hid (getT B key seq = (default, false, (openB B).2.2)) := by
      unfold Hid getT
      rw [if_neg hG]
    generalize (openB B).2.2 = q at *
    generalize (openB B).2.1.1 = fk at *
    have hq1 : (q == 0) = false := by simp [hG]
    have hq2 : (q != 0) = true := by simp [hG]
    have d0 : w1.cell? ⟨w.heap.size + 1 + 1, 0, none⟩ = some (.string ⟨#[]⟩) := blk_cell HB1.out.2 0 _ rfl
    have d1 : w1.cell? ⟨w.heap.size + 1 + 1, 1, none⟩ = some (.int .i64 0) := blk_cell HB1.out.2 1 _ rfl
    have d2 : w1.cell? ⟨w.heap.size + 1 + 1, 2, none⟩ = some (.int .i64 0) := blk_cell HB1.out.2 2 _ rfl
    have d3 : w1.cell? ⟨w.heap.size + 1 + 1, 3, none⟩ = some (.string ⟨#[]⟩) := blk_cell HB1.out.2 3 _ rfl
    have f0 := fun k => blk_frozen HB1.out.2 k
    go_upto_region 2 with fail
    rw [HW1.out]
    go_wp2_with fail
    obtain ⟨hz1, hz2⟩ := HEND.out w1 default false q HB1.out.1 HB1.out.2 HE.out
    exact bodyPost_ret (results_ent3 (q := 6) (r := 7) (u := 8) rfl _ _ rfl hz1) rfl hz2
end Go.Proofs.YthiegmhplnbdlaaGreat

namespace Go.Proofs.YthiegmhplnbdlaaGreat
open Go.RowKit SumPlain
set_option linter.unusedVariables false
set_option linter.unusedSimpArgs false
set_option maxRecDepth 100000
def BatsR (w : World) (v : Value) (ys : List (Value × Int × List Chg)) : Prop := Rws 2 w v (ys.map brw) ∧ ∀ y ∈ ys, ChgsR w y.1 y.2.2
theorem BatsR.up {w w' : World} {v : Value} {ys : List (Value × Int × List Chg)} (h : BatsR w v ys) (hb : Below w.heap.size w w') : BatsR w' v ys := ⟨h.1.up hb, fun y hy => (h.2 y hy).up hb⟩
theorem BatsO.read {t : TypeId} {w : World} {base : Nat} {v : Value} {ys : List (Value × Int × List Chg)} (h : BatsO t w base v ys) : BatsR w v ys := ⟨Rws.own h.1, fun y hy => (h.2 y hy).read⟩
theorem BatsR.len {w : World} {v : Value} {ys : List (Value × Int × List Chg)} (h : BatsR w v ys) : ∃ a cap, v = .slice a ys.length cap ∧ ys.length ≤ cap ∧ cap ≤ maxLen := by
  obtain ⟨a, cap, e, h1, h2⟩ := h.1.len
  rw [List.length_map] at e h1
  exact ⟨a, cap, e, h1, h2⟩
theorem BatsR.at {w : World} {v : Value} {ys : List (Value × Int × List Chg)} (h : BatsR w v ys) (k : Nat) (hk : k < ys.length) :
    ∃ b off cap a c s cs, v = .slice (some ⟨b, off, none⟩) ys.length cap ∧ ys.length ≤ cap ∧ cap ≤ maxLen ∧ ys[k]? = some (.slice a cs.length c, s, cs) ∧ w.cell? ⟨b, off + k * 2, none⟩ = some (.int .i64 s) ∧ w.cell? ⟨b, off + k * 2 + 1, none⟩ = some (.slice a cs.length c) ∧ ChgsR w (.slice a cs.length c) cs := by
  obtain ⟨b, off, cap, e, h1, h2, hc⟩ := h.1.at k (by rw [List.length_map]; exact hk)
  rw [List.length_map] at e h1
  obtain ⟨y, hy⟩ : ∃ y, ys[k]? = some y := ⟨_, List.getElem?_eq_getElem hk⟩
  have hg : (ys.map brw).getD k [] = brw y := by simp [List.getD, hy]
  rw [hg] at hc
  have hr := h.2 y (List.mem_of_getElem? hy)
  obtain ⟨yv, s, cs⟩ := y
  simp only at hr
  obtain ⟨a, c, rfl, _, _⟩ := hr.len
  exact ⟨b, off, cap, a, c, s, cs, e, h1, h2, hy, hc 0 _ rfl, hc 1 _ rfl, hr⟩
theorem trip_pair (gs : List (Int × List Chg)) : (gs.map tripB).map pairB = gs := by
  rw [List.map_map]
  refine (List.map_congr_left (g := id) fun g _ => ?_).trans (by simp)
  rfl
theorem replay_of (b : List Int) (v : Value) (w : World) (hv : Octs w v b) (hl : b.length ≤ 140737488355328) (hs : List (Int × List Chg)) (he : replOf 4 b = hs.map tripB) (E : Nat) (hE : sizeR (hs.map tripB) = E) :
    Calls Tryz.prog 7 #[v] w fun e w' => ∃ (ys : List (Value × Int × List Chg)) (a : Option Addr) (c : Nat), e = .returned (.tuple #[.slice a ys.length c, .int .i64 (E : Int)]) ∧ Hid (BatsR w' (.slice a ys.length c) ys ∧ ys.map (·.2) = hs) ∧ Hid (Below w.heap.size w w') := by
  refine (replay_any b v w hv hl).mono ?_
  rintro e w' ⟨ys, a, c, rfl, h1, h2, h3⟩
  rw [he] at h2 ⊢
  rw [hE]
  refine ⟨ys, a, c, rfl, ⟨h1.read, ?_⟩, h3⟩
  rw [h2, trip_pair]
theorem keysT_has : ∀ (l : List En) (p : Option (List Int)) (x : En), x ∈ l → p = some (nums x.key) ∨ nums x.key ∈ keysT p l
  | [], p, x, h => by cases h
  | y :: r, p, x, h => by
    rw [keysT]
    rcases List.mem_cons.1 h with rfl | h
    · cases hs : sameKT p (nums x.key)
      · right; simp
      · left
        cases p with
        | none => simp [sameKT] at hs
        | some q =>
          simp only [sameKT, beq_iff_eq] at hs
          rw [hs]
    · rcases keysT_has r (some (nums y.key)) x h with e | e
      · injection e with e
        cases hs : sameKT p (nums y.key)
        · right; rw [← e]; simp
        · left
          cases p with
          | none => simp [sameKT] at hs
          | some q =>
            simp only [sameKT, beq_iff_eq] at hs
            rw [hs, e]
      · right; exact List.mem_append_right _ e
theorem fil_has {l : List En} (h : chkT l = 0) (x : En) (hx : x ∈ l) : (mayB (filT l).1 (filT l).2.length && hasF (hashL (nums x.key)) (filT l).1.toNat (filT l).2.length (filT l).2) = true ∧ chkE (filT l).1 (filT l).2.length = 0 := by
  obtain ⟨h1, h2, h3⟩ := chkT_ok h
  have hk := keysT_len' l none
  have he : errM 10 (keysT none l).length = 0 := by unfold errM; rw [if_neg (by decide), if_neg (by omega)]
  have hm := (make_may he).1
  have hh := (make_may he).2 (nums x.key) ((keysT_has l none x hx).resolve_left (by simp))
  constructor
  · rw [show mayB (filT l).1 (filT l).2.length = true from hm, Bool.true_and]
    exact hh
  · unfold chkE
    rw [show mayB (filT l).1 (filT l).2.length = true from hm, if_pos rfl]
theorem log_octs {gs : List (Int × List Chg)} (h : Row none gs) : ∀ x ∈ catF (gs.map recOf), 0 ≤ x ∧ x ≤ 255 := catF_octet _ h.okRec
theorem log_len : ∀ {gs : List (Int × List Chg)}, (∀ g ∈ gs, checkOf g.1 g.2 = 0) → (catF (gs.map recOf)).length ≤ 70000 * gs.length
  | [], _ => by simp [catF]
  | g :: gs, h => by
    have h1 := frame_bound g.1 g.2 (h g List.mem_cons_self)
    have h2 := log_len (gs := gs) (fun q hq => h q (List.mem_cons_of_mem _ hq))
    rw [List.map_cons, catF, List.length_append, List.length_cons]
    show (frameOf 1 (encOf g.1 g.2)).length + _ ≤ _
    omega
theorem octs_nil (w : World) : Octs w (.slice none 0 0) [] := ⟨(fun x hx => by cases hx), .inl ⟨rfl, _, _, rfl, fun _ => rfl⟩⟩
def c1 : Chg := ⟨⟨#[97]⟩, false, ⟨#[120]⟩⟩
def x1 : En := ⟨⟨#[97]⟩, 1, 1, ⟨#[120]⟩⟩
theorem chk_c1 : checkOf 1 [c1] = 0 := by decide
theorem chk_x1 : chkT [x1] = 0 := by
  unfold chkT
  simp [ordE, aheadE, mayE, x1, ByteArray.size]
theorem row_c1 : Row none [((1 : Int), [c1])] := ⟨.inl rfl, chk_c1, trivial⟩
set_option maxHeartbeats 4000000 in
theorem turns_any (w : World) : Calls Tryz.prog 4 #[] w fun e w' => e = .returned (.bool true) ∧ Hid (Below w.heap.size w w') := by
  have HC : ChgsR (w.alloc (.cells #[.string ⟨#[97]⟩, .bool false, .string ⟨#[120]⟩] 75)) (.slice (some ⟨w.heap.size, 0, none⟩) 1 1) [c1] := Rws.made (sz := 3) w 75 [crow c1] (by simp [crow]) (by simp [maxLen])
  have HA := hid (add_good 1 [c1] _ 1 [] none 0 _ HC (octs_nil _) (by simp) chk_c1)
  have U0 : Hid (Below w.heap.size w (w.alloc (.cells #[.string ⟨#[97]⟩, .bool false, .string ⟨#[120]⟩] 75))) := up_alloc _ _
  have HRP : Hid (∀ (w1 : World) (a1 : Option Addr) (n1 c1' : Nat), OwnB w1 (w.alloc (.cells #[.string ⟨#[97]⟩, .bool false, .string ⟨#[120]⟩] 75)).heap.size (.slice a1 n1 c1') ([] ++ frameOf 1 (encOf 1 [c1])) → Calls Tryz.prog 7 #[.slice a1 n1 c1'] w1 fun e w' => ∃ (a : Option Addr) (c : Nat), e = .returned (.tuple #[.slice a 1 c, .int .i64 (n1 : Int)]) ∧ Hid (Below w1.heap.size w1 w')) := by
    intro w1 a1 n1 c1' ho
    have e1 : ([] : List Int) ++ frameOf 1 (encOf 1 [c1]) = catF ([((1 : Int), [c1])].map recOf) := by simp [catF, recOf]
    rw [e1] at ho
    have hn : n1 = (catF ([((1 : Int), [c1])].map recOf)).length := by
      have := own_len ho
      obtain ⟨a9, c9, e9, _⟩ := this
      simp only [Value.slice.injEq] at e9
      exact e9.2.1
    refine (replay_of _ _ w1 (Octs.own ho (log_octs row_c1)) (by have := log_len (gs := [((1 : Int), [c1])]) (fun g hg => by simp at hg; rw [hg]; exact chk_c1); rw [List.length_singleton] at this; omega) [((1 : Int), [c1])] (replOf_all 4 _ row_c1) _ (sizeR_trip _)).mono ?_
    rintro e w' ⟨ys, a, c, rfl, hy, hb⟩
    have hl : ys.length = 1 := by
      have := congrArg List.length hy.out.2
      simpa using this
    rw [hl, hn]
    exact ⟨a, c, rfl, hb⟩
  have HBD : Hid (∀ w1 : World, Calls Tryz.prog 15 #[.slice (some ⟨w1.heap.size, 0, none⟩) 1 1] (w1.alloc (.cells #[.string ⟨#[97]⟩, .int .i64 1, .int .i64 1, .string ⟨#[120]⟩] 50)) fun e w' => ∃ a n c, e = .returned (.tuple #[.slice a n c, .int .i64 0]) ∧ 0 < n ∧ Hid (Below w1.heap.size w1 w')) := by
    intro w1
    have hE : EntsR (w1.alloc (.cells #[.string ⟨#[97]⟩, .int .i64 1, .int .i64 1, .string ⟨#[120]⟩] 50)) (.slice (some ⟨w1.heap.size, 0, none⟩) 1 1) [x1] := Rws.made (sz := 4) w1 50 [enRow x1] (by simp [enRow]) (by simp [maxLen])
    refine (build_any [x1] _ _ hE).mono ?_
    rintro e w' ⟨a, n, c, rfl, hn, _, hb⟩
    have hbb : buildB [x1] = (tabO [x1], 0) := by unfold buildB; rw [if_pos chk_x1]
    rw [hbb] at hn ⊢
    refine ⟨a, n, c, rfl, ?_, up_trans (up_alloc _ _) hb.out⟩
    rw [hn.out]
    unfold tabO
    simp [foot_len]
    omega
  clear HC
  go_enter Tryz.func4, Tryz.ntmps4
  go_wp2_with fail
  refine HA.out.mono ?_
  rintro e w1 ⟨a1, n1, c1', rfl, O1, u1⟩
  have HR1 := hid (HRP.out w1 a1 n1 c1' O1.out)
  have hn63 : n1 ≤ 9223372036854775807 := by
    obtain ⟨a9, c9, e9, _⟩ := own_len O1.out
    simp only [Value.slice.injEq] at e9
    have := frame_bound 1 [c1] chk_c1
    rw [e9.2.1]
    simp
    omega
  go_wp2_with fail
  refine HR1.out.mono ?_
  rintro e w2 ⟨a2, c2, rfl, u2⟩
  go_wp2_with fail
  refine (HBD.out w2).mono ?_
  rintro e w3 ⟨a3, n3, c3, rfl, hn3, u3⟩
  have hn3' : (0 : Int) < (n3 : Int) := by omega
  go_wp2_with fail
  go_ret
  exact ⟨rfl, up_trans U0.out (up_trans u1.out (up_trans u2.out u3.out))⟩
end Go.Proofs.YthiegmhplnbdlaaGreat
