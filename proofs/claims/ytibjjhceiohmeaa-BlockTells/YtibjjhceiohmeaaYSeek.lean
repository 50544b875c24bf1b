/- The program's Seek of layer 9. -/
import Derived.Test.YtibjjhceiohmeaaYDec
import Derived.Test.YtibjjhceiohmeaaNH
namespace Go.Proofs.Ytibjjhceiohmeaa
open Go.RowKit SumPlain
set_option linter.unusedVariables false
set_option linter.unusedSimpArgs false

def fitE (key : ByteArray) (seq : Int) (x : En) : Bool := (x.key.toList == key.toList) && decide (x.seq ≤ seq)
set_option maxRecDepth 100000 in
theorem fit_any (x : En) (key : ByteArray) (seq : Int) (NK NS : Nat) (w : World) (hk : w.cell? ⟨NK, 0, none⟩ = some (.string key)) (hs : w.cell? ⟨NS, 0, none⟩ = some (.int .i64 seq)) :
    Calls Try.prog 36 #[enV x, .pointer (some ⟨NK, 0, none⟩), .pointer (some ⟨NS, 0, none⟩)] w fun e w' => e = .returned (.bool (fitE key seq x)) ∧ Below w.heap.size w w' := by
  have hk2 := cellAl hk (enObj x)
  have hs2 := cellAl hs (enObj x)
  unfold enObj at hk2 hs2
  unfold enV fitE
  cases q1 : (x.key.toList == key.toList)
  · go_enter Try.func36, Try.ntmps36
    go_wp2
    go_ret
    exact ⟨rfl, up_alloc _ _⟩
  · by_cases q2 : x.seq ≤ seq
    · have q3 : decide (x.seq ≤ seq) = true := by simp [q2]
      go_enter Try.func36, Try.ntmps36
      go_wp2
      go_ret
      exact ⟨by simp [q2], up_alloc _ _⟩
    · have q3 : decide (x.seq ≤ seq) = false := by simp [q2]
      go_enter Try.func36, Try.ntmps36
      go_wp2
      go_ret
      exact ⟨by simp [q2], up_alloc _ _⟩

/-- What IndexFunc says. -/
def IdxW (l : List En) (key : ByteArray) (seq : Int) (r : Int) : Prop := (r = -1 ∧ firstF l key seq = none) ∨ ∃ (k : Nat) (y : En), r = (k : Int) ∧ l[k]? = some y ∧ firstF l key seq = some y
set_option maxHeartbeats 1000000 in
set_option maxRecDepth 100000 in
theorem index_any (l : List En) (v : Value) (key : ByteArray) (seq : Int) (NK NS : Nat) (w : World) (hv : EntsR w v l) (hk : w.cell? ⟨NK, 0, none⟩ = some (.string key)) (hs : w.cell? ⟨NS, 0, none⟩ = some (.int .i64 seq)) :
    Calls Try.prog 35 #[v, .func (.func 36) #[] #[.pointer (some ⟨NK, 0, none⟩), .pointer (some ⟨NS, 0, none⟩)]] w fun e w' => ∃ r, e = .returned (.int .i64 r) ∧ Hid (IdxW l key seq r) ∧ Hid (Below w.heap.size w w') := by
  have HV : Hid (EntsR w v l ∧ w.cell? ⟨NK, 0, none⟩ = some (.string key) ∧ w.cell? ⟨NS, 0, none⟩ = some (.int .i64 seq)) := ⟨hv, hk, hs⟩
  obtain ⟨a, cap, rfl, hcap, hmax⟩ := hv.len
  clear hv hs hk
  unfold maxLen at hmax
  go_enter Try.func35, Try.ntmps35
  go_wp2_with fail
  go_loopw [8] (fun i wr => ∃ k : Nat, k ≤ l.length ∧ i = .int .i64 k ∧ Hid (firstF (l.drop k) key seq = firstF l key seq) ∧ Hid (Below w.heap.size w wr)) (fun i _ => l.length - (intOf i).toNat)
  case atStart => exact ⟨0, Nat.zero_le _, rfl, by simp [Hid], Below.refl _ _⟩
  case round =>
    obtain ⟨k, hk, rfl, HK, up⟩ := hrel
    by_cases hlt : k < l.length
    · have hlt' : (k : Int) < (l.length : Int) := by omega
      obtain ⟨b, off, cap', y, e, hy, c0, c1, c2, c3⟩ := (HV.out.1.up up.out).at k hlt
      simp at e
      obtain ⟨rfl, rfl⟩ := e
      have HD : Hid (firstF (l.drop k) key seq = if ((y.key.toList == key.toList) && decide (y.seq ≤ seq)) = true then some y else firstF (l.drop (k + 1)) key seq) := firstF_drop (key := key) (seq := seq) hy
      have HY : Hid (l[k]? = some y) := hy
      have HC := hid (fit_any y key seq NK NS wr ((up.out.cell (World.block_lt_of_cell? w _ HV.out.2.1)).trans HV.out.2.1) ((up.out.cell (World.block_lt_of_cell? w _ HV.out.2.2)).trans HV.out.2.2))
      unfold enV at HC
      clear hy
      cases d : fitE key seq y with
      | true =>
        have HM : Hid (IdxW l key seq (k : Int)) := by
          have d' : ((y.key.toList == key.toList) && decide (y.seq ≤ seq)) = true := d
          refine .inr ⟨k, y, rfl, HY.out, ?_⟩
          rw [← HK.out, HD.out, if_pos d']
        rw [d] at HC
        clear d
        go_wp2_with fail
        refine HC.out.mono ?_
        rintro e w1 ⟨rfl, hb1⟩
        have up1 : Hid (Below w.heap.size w w1) := up_trans up.out hb1
        clear hb1
        go_wp2_with fail
        go_ret
        exact ⟨_, rfl, HM, up1⟩
      | false =>
        have HK2 : Hid (firstF (l.drop (k + 1)) key seq = firstF l key seq) := by
          have d' : ((y.key.toList == key.toList) && decide (y.seq ≤ seq)) = false := d
          unfold Hid
          rw [← HK.out, HD.out, if_neg (by rw [d']; simp)]
        rw [d] at HC
        clear d
        go_wp2_with fail
        refine HC.out.mono ?_
        rintro e w1 ⟨rfl, hb1⟩
        have up1 : Hid (Below w.heap.size w w1) := up_trans up.out hb1
        clear hb1
        go_wp2_with fail
        exact ⟨⟨k + 1, by omega, by go_num, HK2, up1⟩, by simp [intOf]; omega⟩
    · have hlt' : ¬ (k : Int) < (l.length : Int) := by omega
      obtain rfl : k = l.length := by omega
      have HM : Hid (IdxW l key seq (-1)) := by
        refine .inl ⟨rfl, ?_⟩
        rw [← HK.out, List.drop_length]
        rfl
      go_wp2_with fail
      go_ret
      exact ⟨_, rfl, HM, up⟩

set_option maxHeartbeats 4000000 in
set_option maxRecDepth 100000 in
theorem seek_any (B : List Int) (v : Value) (key : ByteArray) (seq : Int) (w : World) (hv : Octs w v B) (hl : B.length ≤ 140737488351232) :
    Calls Try.prog 15 #[v, .string key, .int .i64 seq] w fun e w' => e = .returned (.tuple #[enV (seekB B key seq).1, .bool (seekB B key seq).2.1, .int .i64 (seekB B key seq).2.2]) ∧ Hid (Below w.heap.size w w') := by
  obtain ⟨wa, hwa⟩ : ∃ wa, wa = ((w.alloc (.cells #[.string key] 9)).alloc (.cells #[.int .i64 seq] 3)).alloc (.cells #[.string ⟨#[]⟩, .int .i64 0, .int .i64 0, .string ⟨#[]⟩] 36) := ⟨_, rfl⟩
  have HWA : Hid (((w.alloc (.cells #[.string key] 9)).alloc (.cells #[.int .i64 seq] 3)).alloc (.cells #[.string ⟨#[]⟩, .int .i64 0, .int .i64 0, .string ⟨#[]⟩] 36) = wa) := hwa.symm
  have HB : Hid (Below w.heap.size w wa ∧ wa.heap[w.heap.size + 1 + 1]? = some (.cells #[.string ⟨#[]⟩, .int .i64 0, .int .i64 0, .string ⟨#[]⟩] 36) ∧ wa.heap[w.heap.size]? = some (.cells #[.string key] 9) ∧ wa.heap[w.heap.size + 1]? = some (.cells #[.int .i64 seq] 3)) := by
    rw [hwa]
    refine ⟨up_al (up_al (up_alloc _ _) _) _, ?_, blk_up (blk_new _ _) (up_al (up_alloc _ _) _), ?_⟩
    · have := blk_new ((w.alloc (.cells #[.string key] 9)).alloc (.cells #[.int .i64 seq] 3)) (.cells #[.string ⟨#[]⟩, .int .i64 0, .int .i64 0, .string ⟨#[]⟩] 36)
      have e : ((w.alloc (.cells #[.string key] 9)).alloc (.cells #[.int .i64 seq] 3)).heap.size = w.heap.size + 1 + 1 := by simp
      rw [e] at this
      exact this
    · have := blk_new (w.alloc (.cells #[.string key] 9)) (.cells #[.int .i64 seq] 3)
      have e : (w.alloc (.cells #[.string key] 9)).heap.size = w.heap.size + 1 := by simp
      rw [e] at this
      exact blk_up this (up_alloc _ _)
  have HC := decode_any B v wa (hv.up HB.out.1) hl
  clear hwa hv
  have HEND : Hid (∀ (wz : World) (y : En) (b : Bool) (code : Int), Below w.heap.size w wz → wz.heap[w.heap.size + 1 + 1]? = some (.cells #[.string ⟨#[]⟩, .int .i64 0, .int .i64 0, .string ⟨#[]⟩] 36) → seekB B key seq = (y, b, code) →
      ((((wz.setCell ⟨w.heap.size + 1 + 1, 0, none⟩ (.string y.key)).setCell ⟨w.heap.size + 1 + 1, 1, none⟩ (.int .i64 y.seq)).setCell ⟨w.heap.size + 1 + 1, 2, none⟩ (.int .i64 y.kind)).setCell ⟨w.heap.size + 1 + 1, 3, none⟩ (.string y.val)).heap[w.heap.size + 1 + 1]? = some (.cells #[.string y.key, .int .i64 y.seq, .int .i64 y.kind, .string y.val] 36) ∧
      (Ending.returned (.tuple #[.agg #[.string y.key, .int .i64 y.seq, .int .i64 y.kind, .string y.val], .bool b, .int .i64 code]) = .returned (.tuple #[enV (seekB B key seq).1, .bool (seekB B key seq).2.1, .int .i64 (seekB B key seq).2.2]) ∧ Hid (Below w.heap.size w ((((wz.setCell ⟨w.heap.size + 1 + 1, 0, none⟩ (.string y.key)).setCell ⟨w.heap.size + 1 + 1, 1, none⟩ (.int .i64 y.seq)).setCell ⟨w.heap.size + 1 + 1, 2, none⟩ (.int .i64 y.kind)).setCell ⟨w.heap.size + 1 + 1, 3, none⟩ (.string y.val))))) := by
    intro wz y b code hb h27 he
    refine ⟨set4_blk h27 _ _ _ _, by rw [he]; rfl, ?_⟩
    exact hb.grown (set4_grown wz (w.heap.size + 1 + 1) _ _ _ _) hb.size (fun k hk => by injection hk with hk; omega)
  go_enter Try.func15, Try.ntmps15
  go_upto_region 1 with fail
  rw [HWA.out]
  clear HWA
  go_wp2_with fail
  refine HC.mono ?_
  rintro e w1 ⟨a, n, c, rfl, HN, HL, U1⟩
  have HB1 : Hid (Below w.heap.size w w1 ∧ w1.heap[w.heap.size + 1 + 1]? = some (.cells #[.string ⟨#[]⟩, .int .i64 0, .int .i64 0, .string ⟨#[]⟩] 36)) := ⟨up_trans HB.out.1 U1.out, blk_up HB.out.2.1 U1.out⟩
  have HKS : Hid (w1.cell? ⟨w.heap.size, 0, none⟩ = some (.string key) ∧ w1.cell? ⟨w.heap.size + 1, 0, none⟩ = some (.int .i64 seq)) := ⟨blk_cell (blk_up HB.out.2.2.1 U1.out) 0 _ rfl, blk_cell (blk_up HB.out.2.2.2 U1.out) 0 _ rfl⟩
  clear HC HB U1
  by_cases hG : (decB B).2 = 0
  · rw [hG]
    have HGV : Hid (seekB B key seq = ((firstV (decB B).1 key seq).1, (firstV (decB B).1 key seq).2, 0)) := by
      unfold Hid seekB
      rw [if_pos hG]
    have HLR : Hid (EntsR w1 (.slice a n c) (decB B).1) := Rws.own HL.out
    have HF := index_any (decB B).1 _ key seq w.heap.size (w.heap.size + 1) w1 HLR.out HKS.out.1 HKS.out.2
    clear hG HL
    generalize (decB B).1 = L at *
    have hnm : n ≤ 9223372036854775807 := by
      obtain ⟨_, _, e, h4, h5⟩ := HLR.out.len
      unfold maxLen at h5
      rw [HN.out]
      omega
    go_wp2_with fail
    refine HF.mono ?_
    rintro e w2 ⟨r, rfl, HI, U2⟩
    clear HF
    have HB2 : Hid (Below w.heap.size w w2 ∧ w2.heap[w.heap.size + 1 + 1]? = some (.cells #[.string ⟨#[]⟩, .int .i64 0, .int .i64 0, .string ⟨#[]⟩] 36)) := ⟨up_trans HB1.out.1 U2.out, blk_up HB1.out.2 U2.out⟩
    have HL2 : Hid (EntsR w2 (.slice a n c) L) := HLR.out.up U2.out
    have d0 : w2.cell? ⟨w.heap.size + 1 + 1, 0, none⟩ = some (.string ⟨#[]⟩) := blk_cell HB2.out.2 0 _ rfl
    have d1 : w2.cell? ⟨w.heap.size + 1 + 1, 1, none⟩ = some (.int .i64 0) := blk_cell HB2.out.2 1 _ rfl
    have d2 : w2.cell? ⟨w.heap.size + 1 + 1, 2, none⟩ = some (.int .i64 0) := blk_cell HB2.out.2 2 _ rfl
    have d3 : w2.cell? ⟨w.heap.size + 1 + 1, 3, none⟩ = some (.string ⟨#[]⟩) := blk_cell HB2.out.2 3 _ rfl
    have f0 := fun k => blk_frozen HB2.out.2 k
    rcases HI.out with ⟨rfl, hf⟩ | ⟨k, y, rfl, hy, hf⟩
    · have HGE : Hid (seekB B key seq = (default, false, 0)) := by
        have := HGV.out
        unfold firstV at this
        rw [hf] at this
        exact this
      clear hf
      go_wp2_with fail
      obtain ⟨hz1, hz2⟩ := HEND.out w2 default false 0 HB2.out.1 HB2.out.2 HGE.out
      exact bodyPost_ret (results_ent3 (q := 6) (r := 7) (u := 8) rfl _ _ rfl hz1) rfl hz2
    · have HGE : Hid (seekB B key seq = (y, true, 0)) := by
        have := HGV.out
        unfold firstV at this
        rw [hf] at this
        exact this
      have hkl := (List.getElem?_eq_some_iff.1 hy).1
      obtain ⟨b, off, cap, y', e, hy', z0, z1, z2, z3⟩ := HL2.out.at k hkl
      simp only [Value.slice.injEq] at e
      obtain ⟨rfl, _, rfl⟩ := e
      obtain rfl : y = y' := by rw [hy] at hy'; injection hy'
      have hk1 : ¬ (k : Int) < 0 := by omega
      have hk2 : (0 : Int) ≤ (k : Int) := by omega
      have hk3 : (k : Int) < (n : Int) := by rw [HN.out]; omega
      clear hf hy hy'
      go_wp2_with fail
      obtain ⟨hz1, hz2⟩ := HEND.out w2 y true 0 HB2.out.1 HB2.out.2 HGE.out
      exact bodyPost_ret (results_ent3 (q := 6) (r := 7) (u := 8) rfl _ _ rfl hz1) rfl hz2
  · have HE : Hid (seekB B key seq = (default, false, (decB B).2)) := by
      unfold Hid seekB
      rw [if_neg hG]
    generalize (decB B).2 = q at *
    have hq1 : (q == 0) = false := by simp [hG]
    have hq2 : (q != 0) = true := by simp [hG]
    have d0 : w1.cell? ⟨w.heap.size + 1 + 1, 0, none⟩ = some (.string ⟨#[]⟩) := blk_cell HB1.out.2 0 _ rfl
    have d1 : w1.cell? ⟨w.heap.size + 1 + 1, 1, none⟩ = some (.int .i64 0) := blk_cell HB1.out.2 1 _ rfl
    have d2 : w1.cell? ⟨w.heap.size + 1 + 1, 2, none⟩ = some (.int .i64 0) := blk_cell HB1.out.2 2 _ rfl
    have d3 : w1.cell? ⟨w.heap.size + 1 + 1, 3, none⟩ = some (.string ⟨#[]⟩) := blk_cell HB1.out.2 3 _ rfl
    have f0 := fun k => blk_frozen HB1.out.2 k
    go_wp2_with fail
    obtain ⟨hz1, hz2⟩ := HEND.out w1 default false q HB1.out.1 HB1.out.2 HE.out
    exact bodyPost_ret (results_ent3 (q := 6) (r := 7) (u := 8) rfl _ _ rfl hz1) rfl hz2
end Go.Proofs.Ytibjjhceiohmeaa
