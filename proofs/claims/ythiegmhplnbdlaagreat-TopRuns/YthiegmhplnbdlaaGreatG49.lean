/- Texts of layers 1 to 13, in this order. -/
import Derived.Test.YthiegmhplnbdlaaGreatG48
import Derived.Test.YthiegmhplnbdlaaGreatG07
import Derived.Test.YthiegmhplnbdlaaGreatG37
import Derived.Test.YthiegmhplnbdlaaGreatG40
import Derived.Test.YthiegmhplnbdlaaGreatG47
import Derived.Test.YthiegmhplnbdlaaGreatG25

namespace Go.Proofs.YthiegmhplnbdlaaGreat
open Go.RowKit
set_option linter.unusedVariables false
set_option linter.unusedSimpArgs false
theorem chain0 {s : Sk} (g : Good s) : ∀ (A R : List Nat), s.ord = A ++ R → ∀ w, chainOK s.h s.nx 0 R w → (R = [] ∧ w = 0) ∨ ∃ k R', R = k :: R' ∧ w = (k : Int) + 1 ∧ k < s.nodes.length ∧ 0 < s.h k ∧ chainOK s.h s.nx 0 R' (s.nx k 0) := by
  intro A R e w h
  cases R with
  | nil => exact .inl ⟨rfl, h⟩
  | cons k R' =>
    have hk : k < s.nodes.length := (g.mem k).1 (by rw [e]; simp)
    have hh : 0 < s.h k := by have := (g.high k hk).1; omega
    have := (chain_in hh).1 h
    exact .inr ⟨k, R', rfl, this.1, hk, hh, this.2⟩
theorem idx_mid (A : List Nat) (k : Nat) (R : List Nat) (h : (A ++ k :: R).Nodup) : (A ++ k :: R).idxOf k = A.length := by
  have hn : k ∉ A := fun hj => (List.nodup_append.1 h).2.2 k hj k (by simp) rfl
  rw [List.idxOf_append, if_neg hn]
  simp
def mW (o : List Nat) (num : Int) : Nat := if num = 0 then 0 else o.length - o.idxOf (num - 1).toNat
theorem mW_eq (A : List Nat) (k : Nat) (R : List Nat) (h : (A ++ k :: R).Nodup) : mW (A ++ k :: R) ((k : Int) + 1) = R.length + 1 := by
  unfold mW
  rw [if_neg (by omega), show ((k : Int) + 1 - 1).toNat = k by omega, idx_mid A k R h]
  simp only [List.length_append, List.length_cons]
  omega
theorem mW_next {s : Sk} (g : Good s) (A R : List Nat) (e : s.ord = A ++ R) (w : Int) (h : chainOK s.h s.nx 0 R w) : mW s.ord w = R.length := by
  rcases chain0 g A R e w h with ⟨rfl, rfl⟩ | ⟨k, R', rfl, rfl, _⟩
  · rfl
  · rw [e]
    exact mW_eq A k R' (by rw [← e]; exact Srt.nodup g.srt)
set_option maxHeartbeats 4000000 in
set_option maxRecDepth 100000 in
theorem walk_any (s : Sk) (es : List (En × Value)) (vN vH : Value) (T base : Nat) (w : World) (hV : ∀ w', Below base w w' → SkE w' vN vH s es) (hg : Good s) (hC : Coll w base T (.slice none 0 0) []) (hb : base ≤ w.heap.size) (hTb : base ≤ T) :
    Calls Tryz.prog 35 #[.agg #[vN, vH], .func (.func 36) #[.pointer (some ⟨T, 0, none⟩)] #[]] w fun e w' => ∃ a c, e = .returned (.tuple #[]) ∧ Hid (Coll w' base T (.slice a s.nodes.length c) s.all ∧ Below base w w') := by
  obtain ⟨⟨aN, cN, rfl⟩, ⟨aH, cH, rfl⟩⟩ := (hV w (Below.refl _ _)).form
  have HV : Hid (∀ w', Below base w w' → SkE w' (.slice aN s.nodes.length cN) (.slice aH s.head.length cH) s es) := hV
  have HG : Hid (Good s) := hg
  have HBB : Hid (base ≤ w.heap.size ∧ base ≤ T) := ⟨hb, hTb⟩
  have h8 : 0 < s.head.length := by have := hg.head; omega
  have h8' : (0 : Int) < (s.head.length : Int) := by omega
  have h63 : (s.nodes.length : Int) ≤ 9223372036854775807 := by have := hg.few; omega
  have hlow : ∀ {w' : World}, Below w.heap.size w w' → Below base w w' := fun q => ⟨q.os, q.tape, q.output, q.size, fun k hk => q.block k (by omega)⟩
  have HU0 : Hid (Below base w (w.alloc (.cells #[.slice aN s.nodes.length cN, .slice aH s.head.length cH] 39))) := hlow (up_alloc _ _)
  obtain ⟨b, off, cap, n, e, hn, hc⟩ := (HV.out _ HU0.out).head.at 0 h8
  simp only [Value.slice.injEq] at e
  obtain ⟨rfl, _, rfl⟩ := e
  rw [Nat.add_zero] at hc
  have HN : Hid (chainOK s.h s.nx 0 s.ord n) := by
    have := HG.out.link 0 (by omega)
    have e : s.hd 0 = n := by simp [Sk.hd, List.getD, hn]
    rw [e] at this
    exact this
  have HST : Hid (Coll (w.alloc (.cells #[.slice aN s.nodes.length cN, .slice (some ⟨b, off, none⟩) s.head.length cH] 39)) base T (.slice none 0 0) [] ∧ (w.alloc (.cells #[.slice aN s.nodes.length cN, .slice (some ⟨b, off, none⟩) s.head.length cH] 39)).heap[w.heap.size]? = some (.cells #[.slice aN s.nodes.length cN, .slice (some ⟨b, off, none⟩) s.head.length cH] 39) ∧ w.heap.size ≠ T) := by
    refine ⟨hC.up (up_alloc _ _), blk_new _ _, ?_⟩
    have := blk_lt hC.1
    omega
  clear hV hg hC hb hTb hlow h8 hn
  go_enter Tryz.func35, Tryz.ntmps35
  go_wp2_with fail
  go_loopw [4] (fun q wr => ∃ (A R : List Nat) (num : Int) (a : Option Addr) (c : Nat), q = .int .i64 num ∧ Hid (s.ord = A ++ R ∧ chainOK s.h s.nx 0 R num ∧ Coll wr base T (.slice a (A.map fun k => (s.at' k).1).length c) (A.map fun k => (s.at' k).1) ∧ Below base w wr ∧ wr.heap[w.heap.size]? = some (.cells #[.slice aN s.nodes.length cN, .slice (some ⟨b, off, none⟩) s.head.length cH] 39))) (fun q _ => mW s.ord (intOf q))
  case atStart => exact ⟨[], s.ord, n, none, 0, rfl, rfl, HN.out, HST.out.1, HU0.out, HST.out.2.1⟩
  case round =>
    have HNT : Hid (w.heap.size ≠ T) := HST.out.2.2
    clear HST HN HU0 hc
    obtain ⟨A, R, num, a, c, rfl, HO⟩ := hrel
    have p0 : wr.cell? ⟨w.heap.size, 0, none⟩ = some (.slice aN s.nodes.length cN) := blk_cell HO.out.2.2.2.2 0 _ rfl
    rcases chain0 HG.out A R HO.out.1 num HO.out.2.1 with ⟨hR, rfl⟩ | ⟨k, R', hR, rfl, hk, hh, hch⟩
    · have HEND : Hid (∃ a c, Coll wr base T (.slice a s.nodes.length c) s.all ∧ Below base w wr) := by
        have e : s.ord = A := by rw [HO.out.1, hR, List.append_nil]
        have e2 : (A.map fun k => (s.at' k).1) = s.all := by unfold Sk.all; rw [e]
        have e3 : s.all.length = s.nodes.length := by
          unfold Sk.all Sk.ord
          rw [List.length_map, orderF_len]
        refine ⟨a, c, ?_, HO.out.2.2.2.1⟩
        have := HO.out.2.2.1
        rw [e2, e3] at this
        exact this
      clear hR HO
      go_wp2_with fail
      obtain ⟨a2, c2, hz⟩ := HEND.out
      go_end0
      exact ⟨a2, c2, rfl, hz⟩
    · have hk' : (k : Int) < (s.nodes.length : Int) := by omega
      have hwr1 : IntKind.i64.wrap (k : Int) = (k : Int) := by simp [IntKind.wrap, IntKind.bits, IntKind.signed]; omega
      have hwr2 : IntKind.i64.wrap ((k : Int) + 1 - 1) = (k : Int) := by rw [Int.add_sub_cancel]; exact hwr1
      have hz1 : ((k : Int) + 1 == 0) = false := by simp; omega
      have hz2 : ((k : Int) + 1 != 0) = true := by simp; omega
      have hk0 : 0 ≤ (k : Int) := by omega
      have hk1 : (k : Int) + 1 - 1 = (k : Int) := by omega
      obtain ⟨b1, off1, an, cn, rfl, _, hw, y0, y1, y2, y3, y4⟩ := (HV.out _ HO.out.2.2.2.1).node k hk
      have HTK := take_any (A.map fun k => (s.at' k).1) (s.at' k).1 a c T base wr HO.out.2.2.1 (by
        have e := congrArg List.length HO.out.1
        unfold Sk.ord at e
        rw [orderF_len, List.length_append] at e
        have := HG.out.few
        rw [List.length_map]
        omega) (Nat.le_trans HBB.out.1 HO.out.2.2.2.1.size)
      unfold enV at HTK
      have HCH : Hid (R = k :: R' ∧ chainOK s.h s.nx 0 R' (s.nx k 0) ∧ 0 < s.h k) := ⟨hR, hch, hh⟩
      have HY : Hid (∀ w', Below base w w' → w'.cell? ⟨b1, off1 + k * 5 + 4, none⟩ = some (.slice an (s.h k) cn) ∧ ∃ bn on' cn', (.slice an (s.h k) cn : Value) = .slice (some ⟨bn, on', none⟩) (s.h k) cn' ∧ w'.cell? ⟨bn, on', none⟩ = some (.int .i64 (s.nx k 0))) := by
        intro w' hb
        obtain ⟨b2, off2, an2, cn2, e2, _, hw2, _, _, _, _, z4⟩ := (HV.out _ hb).node k hk
        simp only [Option.some.injEq, Addr.mk.injEq] at e2
        obtain ⟨rfl, rfl, _⟩ := e2
        rw [hw] at hw2
        simp only [Value.slice.injEq] at hw2
        obtain ⟨rfl, _, rfl⟩ := hw2
        refine ⟨z4, ?_⟩
        obtain ⟨bn, on', cn', nn, e3, hnn, hc3⟩ := ((HV.out _ hb).way (k + 1) (by omega)).at 0 hh
        rw [hw] at e3
        refine ⟨bn, on', cn', e3, ?_⟩
        have : s.nx k 0 = nn := by simp [Sk.nx, List.getD]; rw [show (s.at' k).2[0]? = some nn from hnn]; rfl
        rw [this]
        simpa using hc3
      have HAT : Hid ((A ++ [k]).map (fun k => (s.at' k).1) = A.map (fun k => (s.at' k).1) ++ [(s.at' k).1]) := by simp [Hid]
      generalize hy : (s.at' k).1 = y at *
      clear hw hR hch y4 hy
      go_wp2_with fail
      refine HTK.mono ?_
      rintro e w2 ⟨a2, c2, rfl, HZ⟩
      clear HTK y0 y1 y2 y3 p0
      have HB2 : Hid (Below base w w2) := HO.out.2.2.2.1.trans (HZ.out.2.1 base (Nat.le_refl _) HBB.out.2 (Nat.le_trans HBB.out.1 HO.out.2.2.2.1.size))
      have HX2 : Hid (w2.heap[w.heap.size]? = some (.cells #[.slice (some ⟨b1, off1, none⟩) s.nodes.length cN, .slice (some ⟨b, off, none⟩) s.head.length cH] 39)) := HZ.out.2.2 _ _ _ HNT.out (by decide) HO.out.2.2.2.2
      have p0 : w2.cell? ⟨w.heap.size, 0, none⟩ = some (.slice (some ⟨b1, off1, none⟩) s.nodes.length cN) := blk_cell HX2.out 0 _ rfl
      obtain ⟨y4, bn, on', cn', e3, c5⟩ := HY.out _ HB2.out
      simp only [Value.slice.injEq] at e3
      obtain ⟨rfl, _, rfl⟩ := e3
      have hh' : (0 : Int) < (s.h k : Int) := by have := HCH.out.2.2; omega
      have HNEW : Hid (s.ord = (A ++ [k]) ++ R' ∧ chainOK s.h s.nx 0 R' (s.nx k 0) ∧ Coll w2 base T (.slice a2 ((A ++ [k]).map fun k => (s.at' k).1).length c2) ((A ++ [k]).map fun k => (s.at' k).1) ∧ Below base w w2 ∧ w2.heap[w.heap.size]? = some (.cells #[.slice (some ⟨b1, off1, none⟩) s.nodes.length cN, .slice (some ⟨b, off, none⟩) s.head.length cH] 39)) := by
        refine ⟨by rw [HO.out.1, HCH.out.1]; simp, HCH.out.2.1, ?_, HB2.out, HX2.out⟩
        rw [HAT.out]
        have := HZ.out.1
        rw [List.length_append]
        exact this
      have HM : Hid (mW s.ord (s.nx k 0) < mW s.ord ((k : Int) + 1)) := by
        have m1 := mW_next HG.out A R HO.out.1 ((k : Int) + 1) HO.out.2.1
        have m2 := mW_next HG.out (A ++ [k]) R' HNEW.out.1 _ HCH.out.2.1
        unfold Hid
        rw [m1, m2, HCH.out.1]
        simp
      generalize hLL : s.h k = LL at *
      generalize hNN : s.nx k 0 = NN at *
      go_wp2_with fail
      exact ⟨⟨A ++ [k], R', NN, a2, c2, rfl, HNEW⟩, HM.out⟩
end Go.Proofs.YthiegmhplnbdlaaGreat

namespace Go.Proofs.YthiegmhplnbdlaaGreat
open Go.RowKit
set_option linter.unusedVariables false
set_option linter.unusedSimpArgs false
def allV (s : Sk) : List En := if checkS s = true then s.all else []
set_option maxHeartbeats 4000000 in
set_option maxRecDepth 100000 in
theorem all_any (s : Sk) (es : List (En × Value)) (vN vH : Value) (w : World) (hV : SkE w vN vH s es) :
    Calls Tryz.prog 12 #[.agg #[vN, vH]] w fun e w' => ∃ a n c, e = .returned (.tuple #[.slice a n c, .int .i64 (errC s)]) ∧ Hid (n = (allV s).length ∧ OwnR w' w.heap.size 50 4 (.slice a n c) ((allV s).map enRow)) ∧ Hid (Below w.heap.size w w') := by
  obtain ⟨⟨aN, cN, rfl⟩, ⟨aH, cH, rfl⟩⟩ := hV.form
  have HV : Hid (SkE w (.slice aN s.nodes.length cN) (.slice aH s.head.length cH) s es) := hV
  clear hV
  obtain ⟨wa, hwa⟩ : ∃ wa, wa = w.alloc (.cells #[.slice aN s.nodes.length cN, .slice aH s.head.length cH] 39) := ⟨_, rfl⟩
  have HWA : Hid (w.alloc (.cells #[.slice aN s.nodes.length cN, .slice aH s.head.length cH] 39) = wa) := hwa.symm
  have HB : Hid (Below w.heap.size w wa ∧ wa.heap[w.heap.size]? = some (.cells #[.slice aN s.nodes.length cN, .slice aH s.head.length cH] 39)) := by rw [hwa]; exact ⟨up_alloc _ _, blk_new _ _⟩
  have p0 : wa.cell? ⟨w.heap.size, 0, none⟩ = some (.slice aN s.nodes.length cN) := blk_cell HB.out.2 0 _ rfl
  have p1 : wa.cell? ⟨w.heap.size, 1, none⟩ = some (.slice aH s.head.length cH) := blk_cell HB.out.2 1 _ rfl
  have HC := check_any s es _ _ wa (HV.out.up HB.out.1)
  clear hwa
  go_enter Tryz.func12, Tryz.ntmps12
  go_upto_region 1 with fail
  rw [HWA.out]
  clear HWA
  go_wp2_with fail
  refine HC.mono ?_
  rintro e w1 ⟨rfl, U1⟩
  have HB1 : Hid (Below w.heap.size w w1 ∧ w1.heap[w.heap.size]? = some (.cells #[.slice aN s.nodes.length cN, .slice aH s.head.length cH] 39)) := ⟨up_trans HB.out.1 U1.out, blk_up HB.out.2 U1.out⟩
  clear HC p0 p1 HB U1
  by_cases hG : checkS s = true
  · have e0 : errC s = 0 := by unfold errC; rw [if_pos hG]
    have HE : Hid (errC s = 0) := e0
    have HAL : Hid (allV s = s.all) := by unfold Hid allV; rw [if_pos hG]
    rw [e0]
    have HG : Hid (Good s) := (checkS_iff s).1 hG
    clear hG e0
    obtain ⟨w2, hw2⟩ : ∃ w2, w2 = w1.alloc (.cells #[.slice none 0 0] 96) := ⟨_, rfl⟩
    have HW2 : Hid (w1.alloc (.cells #[.slice none 0 0] 96) = w2) := hw2.symm
    have U2 : Hid (Below w1.heap.size w1 w2) := by rw [hw2]; exact up_alloc _ _
    have HK := walk_any s es (.slice aN s.nodes.length cN) (.slice aH s.head.length cH) w1.heap.size w1.heap.size w2 (fun w' hb => HV.out.up (up_trans HB1.out.1 (U2.out.trans hb))) HG.out ⟨by rw [hw2]; exact blk_new _ _, OwnR.nil _ _ _ _⟩ U2.out.size (Nat.le_refl _)
    have p0 : (w1.alloc (.cells #[.slice none 0 0] 96)).cell? ⟨w.heap.size, 0, none⟩ = some (.slice aN s.nodes.length cN) := by rw [HW2.out]; exact blk_cell (blk_up HB1.out.2 U2.out) 0 _ rfl
    have p1 : (w1.alloc (.cells #[.slice none 0 0] 96)).cell? ⟨w.heap.size, 1, none⟩ = some (.slice aH s.head.length cH) := by rw [HW2.out]; exact blk_cell (blk_up HB1.out.2 U2.out) 1 _ rfl
    clear hw2
    go_wp2_with fail
    rw [HW2.out]
    refine HK.mono ?_
    rintro e w3 ⟨a, c, rfl, HZ⟩
    clear HK p0 p1 HW2
    generalize hT : w1.heap.size = T at *
    have t0 : w3.cell? ⟨T, 0, none⟩ = some (.slice a s.nodes.length c) := blk_cell HZ.out.1.1 0 _ rfl
    have HTL : Hid (w.heap.size ≤ T) := by have := HB1.out.1.size; unfold Hid; omega
    go_wp2_with fail
    go_ret2
    refine ⟨a, s.nodes.length, c, by rw [HE.out]; rfl, ⟨?_, ?_⟩, ?_⟩
    · rw [HAL.out]
      unfold Sk.all Sk.ord
      rw [List.length_map, orderF_len]
    · rw [HAL.out]
      exact HZ.out.1.2.mono HTL.out
    · exact up_trans HB1.out.1 (by rw [hT]; exact U2.out.trans HZ.out.2)
  · have e9 : errC s = 9 := by unfold errC; rw [if_neg hG]
    have HE : Hid (errC s = 9) := e9
    have HAL : Hid (allV s = []) := by unfold Hid allV; rw [if_neg hG]
    rw [e9]
    clear hG e9
    go_wp2_with fail
    go_ret2
    refine ⟨none, 0, 0, by rw [HE.out]; rfl, ⟨by rw [HAL.out]; rfl, ?_⟩, HB1.out.1⟩
    rw [HAL.out]
    exact OwnR.nil _ _ _ _
end Go.Proofs.YthiegmhplnbdlaaGreat

namespace Go.Proofs.YthiegmhplnbdlaaGreat
open Go.RowKit
set_option linter.unusedVariables false
set_option linter.unusedSimpArgs false
def IsH (d : Nat) (h : Nat) : Prop := 1 ≤ h ∧ h ≤ 8 ∧ (∀ j, j < h - 1 → (d / 4 ^ j) % 4 = 0) ∧ (h = 8 ∨ (d / 4 ^ (h - 1)) % 4 ≠ 0)
theorem IsH.one {d h k : Nat} (a : IsH d h) (b : IsH d k) : h = k := by
  obtain ⟨a1, a2, a3, a4⟩ := a
  obtain ⟨b1, b2, b3, b4⟩ := b
  rcases Nat.lt_trichotomy h k with q | q | q
  · rcases a4 with r | r
    · omega
    · exact absurd (b3 (h - 1) (by omega)) r
  · exact q
  · rcases b4 with r | r
    · omega
    · exact absurd (a3 (k - 1) (by omega)) r
theorem and3 (n : Nat) (hn : n < 18446744073709551616) : bits .and .u64 (n : Int) 3 = ((n % 4 : Nat) : Int) := by
  have e : n &&& 3 = n % 4 := Nat.and_two_pow_sub_one_eq_mod n 2
  have h := bits_and_u64_nat n 3 (by omega) (by omega)
  rw [e] at h
  exact h
set_option maxRecDepth 100000 in
theorem height_any (d : Nat) (hd : d < 18446744073709551616) (w : World) :
    Calls Tryz.prog 10 #[.int .u64 (d : Int)] w fun e w' => ∃ h : Nat, e = .returned (.int .i64 (h : Int)) ∧ Hid (IsH d h) ∧ w' = w := by
  go_enter Tryz.func10, Tryz.ntmps10
  go_wp2_with fail
  go_loopw [0, 3, 4] (fun p q r wr => ∃ i D : Nat, i ≤ 7 ∧ p = .int .u64 (D : Int) ∧ q = .int .i64 ((i : Int) + 1) ∧ r = .int .i64 (i : Int) ∧ Hid (D = d / 4 ^ i) ∧ Hid (∀ j, j < i → (d / 4 ^ j) % 4 = 0) ∧ wr = w) (fun _ _ r _ => 7 - (intOf r).toNat)
  case atStart => exact ⟨0, d, by omega, by simp, rfl, rfl, by simp [Hid], fun j h => by omega, rfl⟩
  case round =>
    obtain ⟨i, D, hi, rfl, rfl, rfl, HD, HZ, rfl⟩ := hrel
    have hD : D < 18446744073709551616 := by
      rw [HD.out]
      exact Nat.lt_of_le_of_lt (Nat.div_le_self _ _) hd
    have A3 := and3 D hD
    by_cases hlt : i < 7
    · have hlt' : (i : Int) < 7 := by omega
      by_cases hz : D % 4 = 0
      · rw [hz] at A3
        go_wp2_with fail
        refine ⟨⟨i + 1, D / 4, by omega, by simp, by go_num, by go_num, ?_, ?_, trivial⟩, by simp [intOf]; omega⟩
        · unfold Hid
          rw [HD.out, Nat.div_div_eq_div_mul, Nat.pow_succ]
        · intro j hj
          by_cases e : j < i
          · exact HZ.out j e
          · obtain rfl : j = i := by omega
            rw [← HD.out]; exact hz
      · have hz' : ¬ ((D % 4 : Nat) : Int) = 0 := by omega
        have hz2 : (((D % 4 : Nat) : Int) != 0) = true := by simp; omega
        generalize hE : ((D % 4 : Nat) : Int) = E at *
        go_wp2_with fail
        go_ret
        refine ⟨i + 1, by go_num, ?_, rfl⟩
        refine ⟨by omega, by omega, fun j hj => HZ.out j (by omega), .inr ?_⟩
        have := HD.out
        simp only [Nat.add_sub_cancel]
        rw [← this]
        exact hz
    · obtain rfl : i = 7 := by omega
      go_wp2_with fail
      go_ret
      exact ⟨8, by go_num, ⟨by omega, by omega, fun j hj => HZ.out j (by omega), .inl rfl⟩, rfl⟩
end Go.Proofs.YthiegmhplnbdlaaGreat

namespace Go.Proofs.YthiegmhplnbdlaaGreat
open Go.RowKit
set_option linter.unusedVariables false
theorem PairsR.up {w w' : World} {v : Value} {l : List Pa} (h : PairsR w v l) (hb : Below w.heap.size w w') : PairsR w' v l := Rws.up h hb
theorem PairsR.len {w : World} {v : Value} {l : List Pa} (h : PairsR w v l) : ∃ a cap, v = .slice a l.length cap ∧ l.length ≤ cap ∧ cap ≤ maxLen := by
  obtain ⟨a, c, e, h1, h2⟩ := Rws.len h
  simp only [List.length_map] at e h1
  exact ⟨a, c, e, h1, h2⟩
theorem PairsR.at {w : World} {v : Value} {l : List Pa} (h : PairsR w v l) (k : Nat) (hk : k < l.length) :
    ∃ b off cap n, v = .slice (some ⟨b, off, none⟩) l.length cap ∧ l[k]? = some n ∧ w.cell? ⟨b, off + k * 2, none⟩ = some (.string n.key) ∧ w.cell? ⟨b, off + k * 2 + 1, none⟩ = some (.string n.val) := by
  obtain ⟨b, off, cap, e, _, _, hc⟩ := Rws.at h k (by simpa using hk)
  simp only [List.length_map] at e
  have hg : (l.map paRow).getD k [] = paRow l[k] := by simp [List.getD, hk]
  rw [hg] at hc
  refine ⟨b, off, cap, l[k], e, by simp [hk], ?_, ?_⟩
  · simpa using hc 0 _ rfl
  · simpa using hc 1 _ rfl
set_option maxHeartbeats 1000000 in
set_option maxRecDepth 100000 in
theorem samePairs_self (l : List Pa) (v u : Value) (w : World) (hv : PairsR w v l) (hu : PairsR w u l) :
    Calls Tryz.prog 18 #[v, u] w fun e w' => e = .returned (.bool true) ∧ ∃ d, w' = w.drewN d := by
  have HV : Hid (PairsR w v l) := hv
  have HU : Hid (PairsR w u l) := hu
  obtain ⟨a1, c1, rfl, g1, m1⟩ := hv.len
  obtain ⟨a2, c2, rfl, g2, m2⟩ := hu.len
  have hl63 : l.length ≤ 9223372036854775807 := by unfold maxLen at m1; omega
  clear hv hu g1 g2 m1 m2
  go_enter Tryz.func18, Tryz.ntmps18
  go_wp2_with fail
  go_loopw [5] (fun i wr => ∃ (k d : Nat), k ≤ l.length ∧ i = .int .i64 k ∧ wr = w.drewN d) (fun i _ => l.length - (intOf i).toNat)
  case atStart => exact ⟨0, 0, Nat.zero_le _, rfl, rfl⟩
  case round =>
    obtain ⟨k, d, hk, rfl, rfl⟩ := hrel
    by_cases hlt : k < l.length
    · have hlt' : (k : Int) < (l.length : Int) := by omega
      obtain ⟨b, off, cap, x, e, hx, x0, x1⟩ := HV.out.at k hlt
      obtain ⟨b', off', cap', y, e', hy, y0, y1⟩ := HU.out.at k hlt
      simp at e e'
      obtain ⟨rfl, rfl⟩ := e
      obtain ⟨rfl, rfl⟩ := e'
      obtain rfl : x = y := by rw [hx] at hy; simpa using hy
      clear hx hy
      go_wp2_with fail
      go_quiet (fail)
      go_wp2_with fail
      exact ⟨⟨k + 1, d + nq, by omega, by go_num, rfl⟩, by simp [intOf]; omega⟩
    · have hlt' : ¬ (k : Int) < (l.length : Int) := by omega
      go_wp2_with fail
      go_ret
      exact ⟨rfl, d, rfl⟩
end Go.Proofs.YthiegmhplnbdlaaGreat

namespace Go.Proofs.YthiegmhplnbdlaaGreat
open Go.RowKit
set_option linter.unusedVariables false
set_option linter.unusedSimpArgs false
def brow (b : Nat) : List Value := [.slice (some ⟨b, 0, none⟩) 1 1]
def enB (x : En) : Obj := .cells #[.string x.key, .int .i64 x.seq, .int .i64 x.kind, .string x.val] 50
structure TopI (w2 : World) (B : Nat) (V : List En) (k m : Nat) (rv vN vH : Value) (s : Sk) (es : List (En × Value)) (bl : List Nat) (wr : World) : Prop where
  below : Below w2.heap.size w2 wr
  hB : w2.heap.size ≤ B
  box : wr.heap[B]? = some (.cells #[vN, vH] 39)
  sk : OwnSk wr w2.heap.size 124 vN vH s es
  good : Good s
  ents : s.es = V.take k
  runs : OwnR wr w2.heap.size 42 1 rv (bl.map brow)
  len : bl.length = m
  few : m ≤ V.length
  elems : ∀ (i b : Nat) (x : En), bl[i]? = some b → V[i]? = some x → wr.heap[b]? = some (enB x)
theorem TopI.up {w2 : World} {B : Nat} {V : List En} {k m : Nat} {rv vN vH : Value} {s : Sk} {es : List (En × Value)} {bl : List Nat} {wr w' : World} (h : TopI w2 B V k m rv vN vH s es bl wr) (hu : Below wr.heap.size wr w') : TopI w2 B V k m rv vN vH s es bl w' :=
  ⟨up_trans h.below hu, h.hB, blk_up h.box hu, h.sk.up hu, h.good, h.ents, h.runs.up hu, h.len, h.few, fun i b x hb hx => blk_up (h.elems i b x hb hx) hu⟩
theorem TopI.nil {w2 w3 : World} {V : List En} {vN vH : Value} (hb : Below w2.heap.size w2 w3) (hs : OwnSk w3 w2.heap.size 124 vN vH emptyS []) : TopI w2 w3.heap.size V 0 0 (.slice none 0 0) vN vH emptyS [] [] (w3.alloc (.cells #[vN, vH] 39)) :=
  ⟨up_al hb _, hb.size, blk_new _ _, hs.up (up_alloc _ _), emptyS_good, by simp [emptyS, Sk.es], OwnR.nil _ _ _ _, rfl, Nat.zero_le _, fun i b x h => by simp at h⟩
theorem TopI.put {w2 : World} {B : Nat} {V : List En} {k m : Nat} {rv vN vH vN' vH' : Value} {s t : Sk} {es es' : List (En × Value)} {bl : List Nat} {wr wc : World} {x : En} {h0 : Int} (h : TopI w2 B V k m rv vN vH s es bl wr) (hu : Below wr.heap.size wr wc)
    (ho : OwnSk wc wr.heap.size 124 vN' vH' t es') (hp : IsPut s x h0 t) (he : errP s x h0 = 0) (hx : V[k]? = some x) : TopI w2 B V (k + 1) m rv vN' vH' t es' bl ((wc.setCell ⟨B, 0, none⟩ vN').setCell ⟨B, 1, none⟩ vH') := by
  have h1 := h.up hu
  have g : wc.grownBy ((wc.setCell ⟨B, 0, none⟩ vN').setCell ⟨B, 1, none⟩ vH') (some B) := set2_grown _ _ _ _
  obtain ⟨p1, p2, _⟩ := hp.2 he
  refine ⟨h1.below.grown g h1.below.size (fun q hq => by injection hq with hq; have := h.hB; omega), h.hB, set2_blk h1.box _ _, ?_, p1, ?_, h1.runs.far g (own_blk_ne h1.runs.2 h1.box (by decide)), h.len, h.few, fun i b y hb hy => ?_⟩
  · exact (ho.mono h.below.size).block h1.box (by decide) (by decide) g
  · rw [p2, h.ents, List.take_add_one, hx]
    rfl
  · have e := h1.elems i b y hb hy
    refine blk_grown e g (fun q => ?_)
    injection q with q
    subst q
    rw [h1.box] at e
    unfold enB at e
    simp at e
theorem TopI.app {w2 : World} {B : Nat} {V : List En} {k m : Nat} {rv rv' vN vH : Value} {s : Sk} {es : List (En × Value)} {bl : List Nat} {wr w' : World} {x : En} {o : Obj} (h : TopI w2 B V k m rv vN vH s es bl wr) (hx : V[m]? = some x)
    (ho : OwnR w' w2.heap.size 42 1 rv' (bl.map brow ++ [brow wr.heap.size])) (hg : ((wr.alloc (enB x)).alloc o).grownBy w' rv.ownBlock) : TopI w2 B V k (m + 1) rv' vN vH s es (bl ++ [wr.heap.size]) w' := by
  have h1 : TopI w2 B V k m rv vN vH s es bl ((wr.alloc (enB x)).alloc o) := (h.up (up_alloc _ _)).up (up_alloc _ _)
  have hnew : ((wr.alloc (enB x)).alloc o).heap[wr.heap.size]? = some (enB x) := blk_up (blk_new wr (enB x)) (up_alloc _ _)
  have far : ∀ (b : Nat) (cs : Array Value) (t : TypeId), ((wr.alloc (enB x)).alloc o).heap[b]? = some (.cells cs t) → 42 ≠ t → w'.heap[b]? = some (.cells cs t) := fun b cs t hb hne => by
    refine blk_grown hb hg (fun q => ?_)
    rcases own_blk_ne h1.runs.2 hb hne with e | e
    · rw [e] at q; cases q
    · exact e q.symm
  have hbase : ∀ q, rv.ownBlock = some q → w2.heap.size ≤ q := fun q hq => (h1.runs.2.lt q hq).1
  refine ⟨h1.below.grown hg h1.below.size hbase, h.hB, far _ _ _ h1.box (by decide), ?_, h.good, h.ents, by rw [List.map_append]; exact ho, by rw [List.length_append, h.len]; rfl, ?_, fun i b y hb hy => ?_⟩
  · refine h1.sk.far hg (own_own_ne h1.sk.nodes.2 h1.runs.2 (by decide)) (own_own_ne h1.sk.head.2 h1.runs.2 (by decide)) (fun p hp => ?_)
    obtain ⟨j, hj⟩ := List.mem_iff_getElem?.1 hp
    exact own_own_ne (h1.sk.nexts j p hj).2 h1.runs.2 (by decide)
  · have := (List.getElem?_eq_some_iff.1 hx).1
    omega
  · by_cases hi : i < bl.length
    · rw [List.getElem?_append_left hi] at hb
      exact far _ _ _ (h1.elems i b y hb hy) (by decide)
    · have hil : i = m := by
        have := (List.getElem?_eq_some_iff.1 hb).1
        rw [List.length_append, List.length_singleton] at this
        have := h.len
        omega
      subst hil
      rw [List.getElem?_append_right (by have := h.len; omega), h.len, Nat.sub_self] at hb
      simp at hb
      subst hb
      rw [hx] at hy
      cases hy
      exact far _ _ _ hnew (by decide)
theorem ent_one {w : World} {b : Nat} {x : En} (h : w.heap[b]? = some (enB x)) : EntsR w (.slice (some ⟨b, 0, none⟩) 1 1) [x] := by
  refine ⟨fun cs hc => by simp [enRow] at hc; rw [hc]; rfl, some ⟨b, 0, none⟩, 1, rfl, Nat.le_refl _, by simp [maxLen], (fun q => by cases q), fun _ => ⟨b, 0, rfl, fun j cs hj i u hi => ?_⟩⟩
  match j, hj with
  | 0, hj =>
    simp at hj
    subst hj
    unfold enB at h
    refine blk_cell h _ _ ?_
    have e : 0 + 0 * 4 + i = i := by omega
    rw [e]
    simpa [enRow] using hi
  | j + 1, hj => simp at hj
theorem TopI.all {w2 : World} {B : Nat} {V : List En} {k m : Nat} {rv vN vH : Value} {s : Sk} {es : List (En × Value)} {bl : List Nat} {wr : World} (h : TopI w2 B V k m rv vN vH s es bl wr) (hm : m = V.length) : RunsR wr rv (V.map fun x => [x]) := by
  refine ⟨bl.map (fun b => .slice (some ⟨b, 0, none⟩) 1 1), ?_, by simp [h.len, hm], fun i u r hu hr => ?_⟩
  · have := Rws.own h.runs
    rw [List.map_map]
    exact this
  · rw [List.getElem?_map] at hu hr
    cases hb : bl[i]? with
    | none => rw [hb] at hu; simp at hu
    | some b =>
      cases hx : V[i]? with
      | none => rw [hx] at hr; simp at hr
      | some x =>
        rw [hb] at hu
        rw [hx] at hr
        simp at hu hr
        subst hu hr
        exact ent_one (h.elems i b x hb hx)
def LstR (w : World) (v : Value) (ls : List (List Chg)) : Prop := ∃ us : List Value, Rws 1 w v (us.map srowQ) ∧ us.length = ls.length ∧ ∀ (i : Nat) (u : Value) (r : List Chg), us[i]? = some u → ls[i]? = some r → ChgsR w u r
theorem LstR.up {w w' : World} {v : Value} {ls : List (List Chg)} (h : LstR w v ls) (hb : Below w.heap.size w w') : LstR w' v ls := by
  obtain ⟨us, h1, h2, h3⟩ := h
  exact ⟨us, h1.up hb, h2, fun i u r hu hr => (h3 i u r hu hr).up hb⟩
theorem LstR.at {w : World} {v : Value} {ls : List (List Chg)} (h : LstR w v ls) (k : Nat) (hk : k < ls.length) :
    ∃ b off cap a c r, v = .slice (some ⟨b, off, none⟩) ls.length cap ∧ ls[k]? = some r ∧ w.cell? ⟨b, off + k, none⟩ = some (.slice a r.length c) ∧ ChgsR w (.slice a r.length c) r := by
  obtain ⟨us, h1, h2, h3⟩ := h
  obtain ⟨b, off, cap, e, _, _, hc⟩ := Rws.at h1 k (by rw [List.length_map]; omega)
  rw [List.length_map, h2] at e
  have hu : us[k]? = some us[k] := List.getElem?_eq_getElem (by omega)
  have hr : ls[k]? = some ls[k] := List.getElem?_eq_getElem hk
  have hE := h3 k _ _ hu hr
  obtain ⟨a, c, ev, _⟩ := hE.len
  have := hc 0 us[k] (by
    rw [List.getD_eq_getElem?_getD, List.getElem?_map, hu]
    rfl)
  rw [ev] at this hE
  exact ⟨b, off, cap, a, c, ls[k], e, hr, by simpa using this, hE⟩
def urow (d : Nat) : List Value := [.int .u64 (d : Int)]
def DrwR (w : World) (v : Value) (hs : List Nat) : Prop := Rws 1 w v (hs.map urow) ∧ ∀ d ∈ hs, d < 18446744073709551616
theorem DrwR.up {w w' : World} {v : Value} {hs : List Nat} (h : DrwR w v hs) (hb : Below w.heap.size w w') : DrwR w' v hs := ⟨h.1.up hb, h.2⟩
theorem DrwR.at {w : World} {v : Value} {hs : List Nat} (h : DrwR w v hs) (k : Nat) (hk : k < hs.length) :
    ∃ (b off cap d : Nat), v = .slice (some ⟨b, off, none⟩) hs.length cap ∧ w.cell? ⟨b, off + k, none⟩ = some (.int .u64 (d : Int)) ∧ d < 18446744073709551616 := by
  obtain ⟨b, off, cap, e, _, _, hc⟩ := Rws.at h.1 k (by rw [List.length_map]; omega)
  rw [List.length_map] at e
  have hd : hs[k]? = some hs[k] := List.getElem?_eq_getElem hk
  have := hc 0 (.int .u64 (hs[k] : Int)) (by
    rw [List.getD_eq_getElem?_getD, List.getElem?_map, hd]
    rfl)
  exact ⟨b, off, cap, hs[k], e, by simpa using this, h.2 _ (List.getElem_mem _)⟩
theorem all_take {gs : List (Int × List Chg)} {i : Nat} {g : Int × List Chg} (hg : gs[i]? = some g) : allE (gs.take (i + 1)) = allE (gs.take i) ++ entE g.1 g.2 := by
  rw [List.take_add_one, hg]
  exact allE_snoc _ _
theorem all_pre (gs : List (Int × List Chg)) (i : Nat) : ∃ r, allE gs = allE (gs.take i) ++ r := by
  refine ⟨allE (gs.drop i), ?_⟩
  conv => lhs; rw [← List.take_append_drop i gs]
  unfold allE
  rw [List.map_append, List.flatten_append]
theorem all_at {gs : List (Int × List Chg)} {i j : Nat} {g : Int × List Chg} {x : En} (hg : gs[i]? = some g) (hx : (entE g.1 g.2)[j]? = some x) : (allE gs)[(allE (gs.take i)).length + j]? = some x := by
  obtain ⟨r, hr⟩ := all_pre gs (i + 1)
  rw [hr, all_take hg, List.append_assoc, List.getElem?_append_right (by omega), List.getElem?_append_left (by have := (List.getElem?_eq_some_iff.1 hx).1; omega)]
  rw [← hx]
  congr 1
  omega
theorem TopI.put_keep {w2 : World} {B : Nat} {V : List En} {k m : Nat} {rv vN vH vN' vH' : Value} {s : Sk} {es : List (En × Value)} {bl : List Nat} {wr wc : World} {base : Nat} {v : Value} {css : List (List Value)} (h : TopI w2 B V k m rv vN vH s es bl wr) (hu : Below wr.heap.size wr wc) (ho : OwnR wr base 50 4 v css) : OwnR ((wc.setCell ⟨B, 0, none⟩ vN').setCell ⟨B, 1, none⟩ vH') base 50 4 v css :=
  (ho.up hu).far (set2_grown _ _ _ _) (own_blk_ne (ho.up hu).2 (blk_up h.box hu) (by decide))
theorem TopI.app_keep {w2 : World} {B : Nat} {V : List En} {k m : Nat} {rv vN vH : Value} {s : Sk} {es : List (En × Value)} {bl : List Nat} {wr w' : World} {base : Nat} {v : Value} {css : List (List Value)} {o o' : Obj} (h : TopI w2 B V k m rv vN vH s es bl wr) (ho : OwnR wr base 50 4 v css) (hg : ((wr.alloc o).alloc o').grownBy w' rv.ownBlock) : OwnR w' base 50 4 v css := by
  have h1 := (ho.up (up_alloc wr o)).up (up_alloc (wr.alloc o) o')
  have h2 := (h.runs.up (up_alloc wr o)).up (up_alloc (wr.alloc o) o')
  exact h1.far hg (own_own_ne h1.2 h2.2 (by decide))
def TopS (w2 : World) (B : Nat) (V : List En) (k : Nat) (ra : Option Addr) (rc : Nat) (wr : World) : Prop := ∃ (b1 b2 : Option Addr) (n1 d1 m1 d2 : Nat) (s : Sk) (es : List (En × Value)) (bl : List Nat), TopI w2 B V k k (.slice ra k rc) (.slice b1 n1 d1) (.slice b2 m1 d2) s es bl wr
theorem TopS.up {w2 : World} {B : Nat} {V : List En} {k : Nat} {ra : Option Addr} {rc : Nat} {wr w' : World} (h : TopS w2 B V k ra rc wr) (hu : Below wr.heap.size wr w') : TopS w2 B V k ra rc w' := by
  obtain ⟨b1, b2, n1, d1, m1, d2, s, es, bl, h⟩ := h
  exact ⟨b1, b2, n1, d1, m1, d2, s, es, bl, h.up hu⟩
end Go.Proofs.YthiegmhplnbdlaaGreat

namespace Go.Proofs.YthiegmhplnbdlaaGreat
open Go.RowKit SumPlain
set_option linter.unusedVariables false
set_option linter.unusedSimpArgs false
set_option maxRecDepth 100000
theorem tab_le {l : List En} (h : chkT l = 0) : 20 ≤ (tabO l).length ∧ (tabO l).length ≤ 20000000 := by
  have h1 := at_len h
  have h2 := fr2_len h
  have h3 := (fr3_oct h).2
  have h4 := foot_len (atT l) (toT l) l.length
  have h5 : (fr3 l).length ≤ 8300 := by
    unfold fr3
    rw [frame_len]
    have := octets_len (((encL (filT l).1 (filT l).2).length : Nat) : Int) (by omega) (by omega)
    omega
  have h6 : atT l = (blkT l (manyT l)).length := rfl
  unfold tabO
  simp only [List.length_append]
  omega
theorem build_ok {l : List En} (h : chkT l = 0) (v : Value) (w : World) (hv : EntsR w v l) :
    Calls Tryz.prog 15 #[v] w fun e w' => ∃ a n c, e = .returned (.tuple #[.slice a n c, .int .i64 0]) ∧ Hid (n = (tabO l).length ∧ Octs w' (.slice a n c) (tabO l)) ∧ Hid (Below w.heap.size w w') := by
  refine (build_any l v w hv).mono ?_
  rintro e w' ⟨a, n, c, rfl, hn, ho, hb⟩
  have e : buildB l = (tabO l, 0) := by unfold buildB; rw [if_pos h]
  rw [e] at hn ho ⊢
  exact ⟨a, n, c, rfl, ⟨hn.out, Octs.own ho.out (tab_oct h)⟩, hb⟩
theorem open_ok {l : List En} (h : chkT l = 0) (a : Option Addr) (n c : Nat) (w : World) (hn : n = (tabO l).length) (hv : Octs w (.slice a n c) (tabO l)) :
    Calls Tryz.prog 16 #[.slice a n c] w fun e w' => ∃ ea en ec fa fn fc, e = .returned (.tuple #[.agg #[.slice ea en ec, .int .i64 (filT l).1, .slice fa fn fc], .int .i64 0]) ∧ Hid (EntsR w' (.slice ea en ec) l) ∧ Hid (fn = (filT l).2.length ∧ Octs w' (.slice fa fn fc) (filT l).2) ∧ Hid (Below w.heap.size w w') := by
  refine (open_any _ a n c w hn hv (by have := (tab_le h).2; omega)).mono ?_
  intro e w' hop
  rw [open_tab h] at hop
  obtain ⟨ea, en, ec, fa, fn, fc, rfl, h1, h2, h3⟩ := hop
  exact ⟨ea, en, ec, fa, fn, fc, rfl, Rws.own h1.out.2, ⟨h2.out.1, Octs.own h2.out.2 (fil_may h).2.2.1⟩, h3⟩
theorem has_ok {l : List En} (h : chkT l = 0) {x : En} (hx : x ∈ l) (a : Option Addr) (n c : Nat) (w : World) (hn : n = (filT l).2.length) (hv : Octs w (.slice a n c) (filT l).2) :
    Calls Tryz.prog 21 #[.agg #[.int .i64 (filT l).1, .slice a n c], .string x.key] w fun e w' => e = .returned (.tuple #[.bool true, .int .i64 0]) ∧ Below w.heap.size w w' := by
  subst hn
  have hm := ordE_may l none (chkT_ok h).2.2 x hx
  have hle := (mayE_le hm).2.1
  have := has_any (nums x.key) (nums_octet x.key) (by omega) (filT l).1 (filT l).2 a c w hv
  rw [(fil_has h x hx).1, (fil_has h x hx).2, str_nums] at this
  exact this
theorem tget_ok {l : List En} (h : chkT l = 0) {y : En} {seq : Int} (hy : firstF l y.key seq = some y) (a : Option Addr) (n c : Nat) (w : World) (hn : n = (tabO l).length) (hv : Octs w (.slice a n c) (tabO l)) :
    Calls Tryz.prog 20 #[.slice a n c, .string y.key, .int .i64 seq] w fun e w' => e = .returned (.tuple #[.agg #[.string y.key, .int .i64 y.seq, .int .i64 y.kind, .string y.val], .bool true, .int .i64 0]) ∧ Hid (Below w.heap.size w w') := by
  refine (get_any10 (tabO l) a n c y.key seq w hn hv (by have := (tab_le h).2; omega)).mono ?_
  rintro e w' ⟨rfl, hb⟩
  have e : getT (tabO l) y.key seq = (y, true, 0) := by
    unfold getT
    rw [open_tab h]
    simp only [if_true]
    unfold firstV
    rw [hy]
  rw [e]
  exact ⟨rfl, hb⟩
theorem sget_ok {s : Sk} {es : List (En × Value)} (g : Good s) {y : En} {seq : Int} (hy : firstF s.all y.key seq = some y) (vN vH : Value) (w : World) (hV : SkE w vN vH s es) :
    Calls Tryz.prog 19 #[.agg #[vN, vH], .string y.key, .int .i64 seq] w fun e w' => e = .returned (.tuple #[.agg #[.string y.key, .int .i64 y.seq, .int .i64 y.kind, .string y.val], .bool true, .int .i64 0]) ∧ Hid (Below w.heap.size w w') := by
  refine (get_anyP s es vN vH y.key seq w hV).mono ?_
  rintro e w' ⟨rfl, hb⟩
  have e : getV s y.key seq = (y, true, 0) := by
    unfold getV
    rw [(checkS_iff s).2 g]
    have : firstS s.all y.key seq = some y := hy
    rw [this]
    rfl
  rw [e]
  exact ⟨rfl, hb⟩
theorem seen_len (l : List En) (s : Int) : (seenM l s).length ≤ l.length := by
  unfold seenM
  split
  · unfold seenL
    exact Nat.le_trans (List.length_filterMap_le _ _) (groups_len l)
  · simp
theorem seen_at {l : List En} (h : ordL l = 0) {s : Int} {i : Nat} (hi : i < (seenM l s).length) : ∃ y : En, y ∈ l ∧ firstF l y.key s = some y ∧ (seenM l s)[i]? = some ⟨y.key, y.val⟩ := by
  obtain ⟨y, hy, hf, hk, hv⟩ := seen_first h (List.getElem_mem hi)
  refine ⟨y, hy, by rw [hk]; exact hf, ?_⟩
  rw [List.getElem?_eq_getElem hi, hk, hv]
end Go.Proofs.YthiegmhplnbdlaaGreat
