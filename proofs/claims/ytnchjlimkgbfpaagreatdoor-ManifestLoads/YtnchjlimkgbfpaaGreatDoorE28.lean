/- The texts ORdr, VRefPut, FMath, GPut, OEnr, DRd2, in this order. -/
import Derived.Test.YtnchjlimkgbfpaaGreatDoorE26
import Derived.Test.YtnchjlimkgbfpaaGreatDoorGTake
import Derived.Test.YtnchjlimkgbfpaaGreatDoorVRef
import Derived.BigRegion
import Derived.Test.YtnchjlimkgbfpaaGreatDoorE11
import Derived.Test.YtnchjlimkgbfpaaGreatDoorE23
import Derived.Test.YtnchjlimkgbfpaaGreatDoorE18
import Derived.Deep.RegionHeld3

namespace Go.Proofs.YtnchjlimkgbfpaaGreatDoor
open Go.RowKit
set_option linter.unusedVariables false
set_option linter.unusedSimpArgs false
theorem refNumS (N : Nat) (X : List Int) (a : Option Addr) (c k : Nat) (y most code : Int) (w0 w : World) (h : RQ w0 w N X a c k y) (h0 : 0 ≤ most) (hm : most ≤ 1099511627776) :
    Calls Tryz.prog 99 #[.pointer (some ⟨N, 0, none⟩), .int .u64 most, .int .i64 code] w fun e w' => ∃ n k' y', e = .returned (.int .i64 n) ∧ Hid (0 ≤ n ∧ n ≤ most) ∧ Hid (numR most code (X.drop k, y) = (n, (X.drop k', y'))) ∧ Hid (RQ w0 w' N X a c k' y') ∧ Hid (w.grownBy w' (some N)) := by
  by_cases hy : y = 0
  · subst hy
    refine (refNum_any N X a c k most code w0 w h hm).mono ?_
    rintro e w' (⟨n, j, hq, hn, rfl, R, g⟩ | ⟨z, hq, rfl, R, g⟩)
    · exact ⟨n, j, 0, rfl, hn, numR_ok hq, R, g⟩
    · refine ⟨0, k, z, rfl, ⟨Int.le_refl _, h0⟩, ?_, R, g⟩
      unfold Hid numR
      simp only [if_true, hq]
  · refine (refNum_err N X a c k y most code w0 w h hy).mono ?_
    rintro e w' ⟨rfl, rfl⟩
    exact ⟨0, k, y, rfl, ⟨Int.le_refl _, h0⟩, numR_stay hy, h, grown_refl _ _⟩
set_option maxHeartbeats 1000000 in
theorem refTextS (N : Nat) (X : List Int) (a : Option Addr) (c k : Nat) (y : Int) (w0 w : World) (h : RQ w0 w N X a c k y) :
    Calls Tryz.prog 100 #[.pointer (some ⟨N, 0, none⟩), .int .u64 96, .int .i64 1] w fun e w' => ∃ s k' y', e = .returned (.string s) ∧ Hid (txtR (X.drop k, y) = (s, (X.drop k', y'))) ∧ Hid (RQ w0 w' N X a c k' y') ∧ Hid (w.grownBy w' (some N)) := by
  have HH : Hid (RQ w0 w N X a c k y) := h
  clear h
  by_cases hy : y = 0
  case neg =>
    have HS := hid (txtR_stay (s := (X.drop k, y)) hy)
    have hk := run_convert_octs [] (.slice none 0 0) w ⟨by simp, .inl ⟨rfl, _, _, rfl, fun _ => rfl⟩⟩
    go_enter Tryz.func100, Tryz.ntmps100
    go_wp2_with fail
    refine (refNum_err N X a c k y 96 1 w0 w HH.out hy).mono ?_
    rintro e w1 ⟨rfl, rfl⟩
    go_wp2_with fail
    refine (refTake_err N X a c k y 0 w0 w1 HH.out hy).mono ?_
    rintro e w2 ⟨rfl, rfl⟩
    go_wp2
    go_ret
    exact ⟨_, k, y, rfl, HS.out, HH.out, grown_refl _ _⟩
  subst hy
  go_enter Tryz.func100, Tryz.ntmps100
  go_wp2_with fail
  refine (refNum_any N X a c k 96 1 w0 w HH.out (by decide)).mono ?_
  rintro e w1 (⟨n, j, hq, hn, rfl, R1, g1⟩ | ⟨y, hq, rfl, R1, g1⟩)
  · obtain ⟨m, rfl⟩ : ∃ m : Nat, n = (m : Int) := ⟨n.toNat, by omega⟩
    have RR : Hid (RQ w0 w1 N X a c j 0) := R1
    have GG : Hid (w.grownBy w1 (some N)) := g1
    have hj := R1.le
    have hm2 : m ≤ 65536 := by omega
    by_cases hl : X.length - j < m
    · have HT : Hid (txtR (X.drop k, 0) = (⟨#[]⟩, (X.drop j, 8))) := by
        unfold Hid txtR
        simp only [if_true, hq]
        rw [if_pos (by rw [List.length_drop]; omega)]
      clear R1 g1 hq hn
      go_wp2_with fail
      refine (refTake_short N X a c j m w0 w1 RR.out hl hm2).mono ?_
      rintro e w2 ⟨rfl, R2, G2⟩
      have hk := run_convert_octs [] (.slice none 0 0) w2 ⟨by simp, .inl ⟨rfl, _, _, rfl, fun _ => rfl⟩⟩
      go_wp2
      go_ret
      exact ⟨_, j, 8, rfl, HT.out, R2.out, grown_trans GG.out G2.out⟩
    · have HT : Hid (txtR (X.drop k, 0) = (strOfNums ((X.drop j).take m), (X.drop (j + m), 0))) := by
        unfold Hid txtR
        simp only [if_true, hq]
        rw [if_neg (by rw [List.length_drop]; omega), Int.toNat_natCast, List.drop_drop]
      clear R1 g1 hq hn
      go_wp2_with fail
      refine (refTake_ok N X a c j m w0 w1 RR.out (by omega) hm2).mono ?_
      rintro e w2 ⟨a2, c2, rfl, O2, R2, G2⟩
      have hk := run_convert_octs _ _ _ (Octs.own O2.out (fun y hy => RR.out.octs.1 y (List.mem_of_mem_drop (List.mem_of_mem_take hy))))
      go_wp2
      go_ret
      exact ⟨_, _, _, rfl, HT.out, R2.out, grown_trans GG.out G2.out⟩
  · have hy := numQ_err (by decide) hq
    have HT : Hid (txtR (X.drop k, 0) = (⟨#[]⟩, (X.drop k, y))) := by
      unfold Hid txtR
      simp only [if_true, hq]
    have RR : Hid (RQ w0 w1 N X a c k y) := R1
    have GG : Hid (w.grownBy w1 (some N)) := g1
    have hk := run_convert_octs [] (.slice none 0 0) w1 ⟨by simp, .inl ⟨rfl, _, _, rfl, fun _ => rfl⟩⟩
    clear R1 g1 hq
    go_wp2_with fail
    refine (refTake_err N X a c k y 0 w0 w1 RR.out hy).mono ?_
    rintro e w2 ⟨rfl, rfl⟩
    go_wp2
    go_ret
    exact ⟨_, k, y, rfl, HT.out, RR.out, GG.out⟩
end Go.Proofs.YtnchjlimkgbfpaaGreatDoor

namespace Go.Proofs.YtnchjlimkgbfpaaGreatDoor
open Go.RowKit
set_option linter.unusedVariables false
set_option maxRecDepth 20000
theorem OwnB.made (w : World) (l : List Int) (hm : l.length ≤ maxLen) : OwnB (w.alloc (.cells (l.map (Value.int .u8)).toArray 5)) w.heap.size (.slice (some ⟨w.heap.size, 0, none⟩) l.length l.length) l := by
  refine ⟨by simp, .inr ⟨w.heap.size, l.length, (l.map (Value.int .u8)).toArray, rfl, Nat.le_refl _, ?_, Nat.le_refl _, hm, by simp, ?_⟩⟩
  · show (w.heap.push _)[w.heap.size]? = _
    simp
  · rw [Nat.mul_one]
    exact List.take_of_length_le (by simp)
end Go.Proofs.YtnchjlimkgbfpaaGreatDoor

namespace Go.Proofs.YtnchjlimkgbfpaaGreatDoor
open Go.RowKit SumPlain
set_option linter.unusedVariables false
set_option maxRecDepth 20000
end Go.Proofs.YtnchjlimkgbfpaaGreatDoor

namespace Go.Proofs.YtnchjlimkgbfpaaGreatDoor
open Go.RowKit SumPlain
set_option linter.unusedVariables false
set_option maxRecDepth 20000
end Go.Proofs.YtnchjlimkgbfpaaGreatDoor

namespace Go.Proofs.YtnchjlimkgbfpaaGreatDoor
open Go.RowKit
set_option linter.unusedVariables false
set_option linter.unusedSimpArgs false
set_option maxRecDepth 20000
theorem rows_shapeE {w : World} {base : Nat} {e : TypeId} {sz : Nat} {v : Value} {css : List (List Value)} (h : OwnR w base e sz v css) : ∃ a n c, v = .slice a n c ∧ Hid (OwnR w base e sz (.slice a n c) css) := by
  obtain ⟨a, c, e', _, _⟩ := (Rws.own h).len
  exact ⟨a, _, c, e', by rw [← e']; exact h⟩
end Go.Proofs.YtnchjlimkgbfpaaGreatDoor

namespace Go.Proofs.YtnchjlimkgbfpaaGreatDoor
open Go.RowKit
set_option linter.unusedVariables false
set_option maxRecDepth 20000
set_option linter.unusedSimpArgs false
theorem numS_bound (s : List Int × Int) (hx : ∀ x ∈ s.1, 0 ≤ x ∧ x ≤ 255) : 0 ≤ (numS s).1 ∧ (numS s).1 ≤ 1099511627776 := by
  unfold numS
  rcases codeS_cases s.1 hx with ⟨v, j, c, hg, hc, hcs⟩ | ⟨m, j, hg, hm, hcs⟩ | ⟨m, j, hg, hm, hj1, hj, hcs⟩
  · rw [if_neg (by rw [hcs]; exact hc)]; simp
  · rw [if_neg (by rw [hcs]; decide)]; simp
  · rw [if_pos hcs, hg]; simp only; omega
theorem RDI.oct {BB : Nat} {W : World} {R : Nat} {s : List Int × Int} (h : RDI BB W R s) : ∀ x ∈ s.1, 0 ≤ x ∧ x ≤ 255 := by
  obtain ⟨_, a, n, c, _, h2, _⟩ := h
  exact h2.1
set_option maxRecDepth 100000 in
theorem count_any (BB R : Nat) (s : List Int × Int) (W : World) (h : RDI BB W R s) :
    Calls Tryz.prog 196 #[.pointer (some ⟨R, 0, none⟩)] W fun e w' => e = .returned (.int .i64 (cntS s).1) ∧ Hid (RDI BB w' R (cntS s).2) ∧ Hid (W.grownBy w' (some R)) := by
  have HN := hid (number_any BB R s W h)
  have HRF : Hid (∀ s' W', RDI BB W' R s' → Calls Tryz.prog 198 #[.pointer (some ⟨R, 0, none⟩), .int .i64 3] W' fun e w' => e = .returned (.tuple #[]) ∧ Hid (RDI BB w' R (refS 3 s')) ∧ Hid (W'.grownBy w' (some R))) := fun s' W' h' => refuse_any BB R s' 3 W' h'
  unfold cntS
  obtain ⟨⟨n, t⟩, hnt⟩ : ∃ p, numS s = p := ⟨_, rfl⟩
  rw [hnt] at HN ⊢
  simp only at HN ⊢
  clear hnt h
  by_cases hn : 256 < n
  · rw [if_pos hn]
    go_enter Tryz.func196, Tryz.ntmps196
    go_wp2_with fail
    refine HN.out.mono ?_
    rintro e w1 ⟨rfl, I1, G1⟩
    go_wp2_with fail
    refine (HRF.out _ _ I1.out).mono ?_
    rintro e w2 ⟨rfl, I2, G2⟩
    go_wp2_with fail
    go_ret
    exact ⟨rfl, I2, grown_trans G1.out G2.out⟩
  · rw [if_neg hn]
    go_enter Tryz.func196, Tryz.ntmps196
    go_wp2_with fail
    refine HN.out.mono ?_
    rintro e w1 ⟨rfl, I1, G1⟩
    go_wp2_with fail
    go_ret
    exact ⟨rfl, I1, G1⟩
set_option maxRecDepth 100000 in
theorem end_any (BB R : Nat) (s : List Int × Int) (W : World) (h : RDI BB W R s) :
    Calls Tryz.prog 174 #[.pointer (some ⟨R, 0, none⟩)] W fun e w' => e = .returned (.tuple #[]) ∧ Hid (RDI BB w' R (if s.1 = [] then s else refS 23 s)) ∧ Hid (W.grownBy w' (some R)) := by
  have HRF : Hid (∀ W', RDI BB W' R s → Calls Tryz.prog 198 #[.pointer (some ⟨R, 0, none⟩), .int .i64 23] W' fun e w' => e = .returned (.tuple #[]) ∧ Hid (RDI BB w' R (refS 23 s)) ∧ Hid (W'.grownBy w' (some R))) := fun W' h' => refuse_any BB R s 23 W' h'
  have HI : Hid (RDI BB W R s) := h
  obtain ⟨_, a, n, c, hb, ho, _⟩ := h
  have r0 := blk_cell hb 0 _ rfl
  have hn : n = s.1.length := by
    rcases ho.2 with ⟨h0, a', cap, e, _⟩ | ⟨_, b, off, cap, e, _, _, _⟩
    · simp only [Value.slice.injEq] at e; rw [h0]; exact e.2.1
    · simp only [Value.slice.injEq] at e; exact e.2.1
  clear hb ho
  by_cases hs : s.1 = []
  · rw [if_pos hs]
    rw [hs] at hn
    simp at hn
    subst hn
    clear hs
    go_enter Tryz.func174, Tryz.ntmps174
    go_wp2_with fail
    go_end0
    exact ⟨rfl, HI, grown_refl _ _⟩
  · rw [if_neg hs]
    have hp : (0 : Int) < (n : Int) := by have := List.length_pos_iff.2 hs; omega
    clear hn hs
    go_enter Tryz.func174, Tryz.ntmps174
    go_wp2_with fail
    refine (HRF.out _ HI.out).mono ?_
    rintro e w2 ⟨rfl, I2, G2⟩
    go_wp2_with fail
    go_end0
    exact ⟨rfl, I2, G2⟩
theorem octs_first {W : World} {a : Option Addr} {c : Nat} {l : List Int} (h : Octs W (.slice a l.length c) l) (p : Nat) (hp : p ≤ l.length) : Octs W (.slice a p c) (l.take p) := by
  obtain ⟨hx, h0⟩ := h
  refine ⟨fun x hx' => hx x (List.mem_of_mem_take hx'), ?_⟩
  by_cases hz : p = 0
  · subst hz
    refine .inl ⟨by simp, a, c, rfl, fun e => ?_⟩
    subst e
    rcases h0 with ⟨_, a', cap, e, h4⟩ | ⟨_, b, off, cap, e, _⟩
    · simp only [Value.slice.injEq] at e
      rw [e.2.2]; exact h4 e.1.symm
    · simp at e
  · rcases h0 with ⟨e, _⟩ | ⟨_, b, off, cap, e, h1, h2, h3⟩
    · rw [e] at hp; simp at hp; omega
    · simp only [Value.slice.injEq] at e
      obtain ⟨rfl, _, rfl⟩ := e
      have hlen : (l.take p).length = p := by rw [List.length_take]; omega
      refine .inr ⟨fun e => ?_, b, off, c, by rw [hlen], by rw [hlen]; omega, h2, fun j x hj => ?_⟩
      · rw [e] at hlen; simp at hlen; omega
      · rw [List.getElem?_take] at hj
        split at hj
        · exact h3 j x hj
        · cases hj
set_option maxHeartbeats 2000000 in
set_option maxRecDepth 100000 in
theorem text_any (BB R : Nat) (s : List Int × Int) (W : World) (h : RDI BB W R s) :
    Calls Tryz.prog 216 #[.pointer (some ⟨R, 0, none⟩)] W fun e w' => e = .returned (.string (txtS s).1) ∧ Hid (RDI BB w' R (txtS s).2) ∧ Hid (W.grownBy w' (some R)) := by
  have HN := hid (number_any BB R s W h)
  have HRF : Hid (∀ c s' W', RDI BB W' R s' → Calls Tryz.prog 198 #[.pointer (some ⟨R, 0, none⟩), .int .i64 c] W' fun e w' => e = .returned (.tuple #[]) ∧ Hid (RDI BB w' R (refS c s')) ∧ Hid (W'.grownBy w' (some R))) := fun c s' W' h' => refuse_any BB R s' c W' h'
  have hnb := numS_bound s h.oct
  unfold txtS
  obtain ⟨⟨n, t⟩, hnt⟩ : ∃ p, numS s = p := ⟨_, rfl⟩
  rw [hnt] at HN hnb ⊢
  simp only at HN hnb ⊢
  clear hnt h
  obtain ⟨k, rfl⟩ : ∃ k : Nat, n = (k : Int) := ⟨n.toNat, by omega⟩
  clear hnb
  by_cases hn : (96 : Int) < (k : Int)
  · rw [if_pos hn]
    go_enter Tryz.func216, Tryz.ntmps216
    go_wp2_with fail
    refine HN.out.mono ?_
    rintro e w1 ⟨rfl, I1, G1⟩
    go_wp2_with fail
    refine (HRF.out _ _ _ I1.out).mono ?_
    rintro e w2 ⟨rfl, I2, G2⟩
    go_wp2_with fail
    go_ret
    exact ⟨rfl, I2, grown_trans G1.out G2.out⟩
  rw [if_neg hn]
  by_cases hs : (t.1.length : Int) < (k : Int)
  · rw [if_pos hs]
    go_enter Tryz.func216, Tryz.ntmps216
    go_wp2_with fail
    refine HN.out.mono ?_
    rintro e w1 ⟨rfl, I1, G1⟩
    obtain ⟨_, a, m, c, hb, ho, _⟩ := I1.out
    have hm : m = t.1.length := by
      rcases ho.2 with ⟨h0, a', cap, e, _⟩ | ⟨_, b, off, cap, e, _, _, _⟩
      · simp only [Value.slice.injEq] at e; rw [h0]; exact e.2.1
      · simp only [Value.slice.injEq] at e; exact e.2.1
    subst hm
    have r0 := blk_cell hb 0 _ rfl
    clear hb ho
    go_wp2_with fail
    refine (HRF.out _ _ _ I1.out).mono ?_
    rintro e w2 ⟨rfl, I2, G2⟩
    go_wp2_with fail
    go_ret
    exact ⟨rfl, I2, grown_trans G1.out G2.out⟩
  · rw [if_neg hs, Int.toNat_natCast]
    go_enter Tryz.func216, Tryz.ntmps216
    go_wp2_with fail
    refine HN.out.mono ?_
    rintro e w1 ⟨rfl, I1, G1⟩
    obtain ⟨l, y⟩ := t
    obtain ⟨hBR, a, m, c, hb, ho, hlo⟩ := I1.out
    simp only at hb ho hs hlo ⊢
    obtain ⟨hm, hlc⟩ : m = l.length ∧ l.length ≤ c := by
      rcases ho.2 with ⟨h0, a', cap, e, _⟩ | ⟨_, b, off, cap, e, h1, _, _⟩
      · simp only [Value.slice.injEq] at e; rw [h0]; exact ⟨e.2.1, by simp⟩
      · simp only [Value.slice.injEq] at e; exact ⟨e.2.1, by omega⟩
    subst hm
    have hkl : k ≤ l.length := by omega
    have B : Hid (w1.heap[R]? = some (.cells #[.slice a l.length c, .int .i64 y] 258)) := hb
    have HOF := hid (octs_from ho k hkl)
    have hcv := run_convert_octs (l.take k) _ w1 (octs_first ho k hkl)
    obtain ⟨A, hA⟩ : ∃ A, (if c = k then a else a.map (fun x => x.add k)) = A := ⟨_, rfl⟩
    have HLA : Hid (∀ b, (Value.slice A (l.length - k) (c - k)).ownBlock = some b → l.drop k ≠ [] → b < BB) := by
      intro b hb hn
      rw [← hA] at hb
      exact hlo b (own_from hb) (by intro e; rw [e] at hn; simp at hn)
    rw [hA] at HOF
    have hkl' : (k : Int) ≤ (l.length : Int) := by omega
    have hkc : (k : Int) ≤ (c : Int) := by omega
    have hlc' : (l.length : Int) ≤ (c : Int) := by omega
    have r0 := blk_cell hb 0 _ rfl
    have f0 := blk_frozen hb 0
    have HFI : Hid (RDI BB (w1.setCell ⟨R, 0, none⟩ (.slice A (l.length - k) (c - k))) R (l.drop k, y)) := ⟨hBR, A, _, _, blk_set hb 0 _, HOF.out.far (grown_set w1 ⟨R, 0, none⟩ _) (fun b hb' hn q => by injection q with q; have := HLA.out b hb' hn; simp only at q; omega), HLA.out⟩
    have HGI : Hid (W.grownBy (w1.setCell ⟨R, 0, none⟩ (.slice A (l.length - k) (c - k))) (some R)) := grown_trans G1.out (grown_set w1 ⟨R, 0, none⟩ _)
    clear hb ho hlc hlo hBR
    go_wp2_with fail
    go_ret
    exact ⟨rfl, HFI, HGI⟩
theorem results_me {fn : Func} {p : Nat} (h : fn.results = #[.cell p 148]) (tmps : Array Value) (w : World) {N : Nat} {a b c d e : Value} (ht : tmps.getD p undef = .pointer (some ⟨N, 0, none⟩))
    (hc : w.heap[N]? = some (.cells #[a, b, c, d, e] 148)) : (results fn tmps).run Tryz.prog w = .ok (.agg #[a, b, c, d, e]) w := by
  have c0 := blk_cell hc 0 a rfl
  have c1 := blk_cell hc 1 b rfl
  have c2 := blk_cell hc 2 c rfl
  have c3 := blk_cell hc 3 d rfl
  have c4 := blk_cell hc 4 e rfl
  have ht' : tmps[p]?.getD undef = .pointer (some ⟨N, 0, none⟩) := by simpa using ht
  simp only [results, h]
  simp [ht', go_sem, c0, c1, c2, c3, c4]
theorem set5_blkE {W : World} {N : Nat} {x y z u v : Value} {t : TypeId} (h : W.heap[N]? = some (.cells #[x, y, z, u, v] t)) (a b c d e : Value) : (((((W.setCell ⟨N, 0, none⟩ a).setCell ⟨N, 1, none⟩ b).setCell ⟨N, 2, none⟩ c).setCell ⟨N, 3, none⟩ d).setCell ⟨N, 4, none⟩ e).heap[N]? = some (.cells #[a, b, c, d, e] t) :=
  blk_set (blk_set (blk_set (blk_set (blk_set h 0 a) 1 b) 2 c) 3 d) 4 e
theorem set5_grownE (W : World) (N : Nat) (a b c d e : Value) : W.grownBy (((((W.setCell ⟨N, 0, none⟩ a).setCell ⟨N, 1, none⟩ b).setCell ⟨N, 2, none⟩ c).setCell ⟨N, 3, none⟩ d).setCell ⟨N, 4, none⟩ e) (some N) :=
  grown_trans (set4_grown W N a b c d) (grown_set _ ⟨N, 4, none⟩ e)
set_option maxHeartbeats 4000000 in
set_option maxRecDepth 100000 in
theorem meta_any (BB R : Nat) (s : List Int × Int) (W : World) (h : RDI BB W R s) :
    Calls Tryz.prog 197 #[.pointer (some ⟨R, 0, none⟩)] W fun e w' => e = .returned (.agg #[.int .i64 (metS s).1.id, .int .i64 (metS s).1.lvl, .int .i64 (metS s).1.cnt, .string (metS s).1.low, .string (metS s).1.high]) ∧ Hid (RDI BB w' R (metS s).2) ∧ Hid (W.grownBy w' (some R)) := by
  have HNU : Hid (∀ s' W', RDI BB W' R s' → Calls Tryz.prog 195 #[.pointer (some ⟨R, 0, none⟩)] W' fun e w' => e = .returned (.int .i64 (numS s').1) ∧ Hid (RDI BB w' R (numS s').2) ∧ Hid (W'.grownBy w' (some R))) := fun s' W' h' => number_any BB R s' W' h'
  have HTX : Hid (∀ s' W', RDI BB W' R s' → Calls Tryz.prog 216 #[.pointer (some ⟨R, 0, none⟩)] W' fun e w' => e = .returned (.string (txtS s').1) ∧ Hid (RDI BB w' R (txtS s').2) ∧ Hid (W'.grownBy w' (some R))) := fun s' W' h' => text_any BB R s' W' h'
  have HB0 : Hid (BB ≤ R) := h.1
  have HR : Hid (R < W.heap.size) := by obtain ⟨_, a, n, c, hb, _⟩ := h; exact blk_lt hb
  unfold metS
  simp only
  obtain ⟨⟨n0, s0⟩, e0⟩ : ∃ p, numS s = p := ⟨_, rfl⟩
  obtain ⟨⟨n1, s1⟩, e1⟩ : ∃ p, numS s0 = p := ⟨_, rfl⟩
  obtain ⟨⟨n2, s2⟩, e2⟩ : ∃ p, numS s1 = p := ⟨_, rfl⟩
  obtain ⟨⟨t3, s3⟩, e3⟩ : ∃ p, txtS s2 = p := ⟨_, rfl⟩
  obtain ⟨⟨t4, s4⟩, e4⟩ : ∃ p, txtS s3 = p := ⟨_, rfl⟩
  have C0 := hid (HNU.out s)
  have C1 := hid (HNU.out s0)
  have C2 := hid (HNU.out s1)
  have C3 := hid (HTX.out s2)
  have C4 := hid (HTX.out s3)
  rw [e0] at C0 ⊢
  rw [e1] at C1
  rw [e2] at C2
  rw [e3] at C3
  rw [e4] at C4
  simp only at C0 C1 C2 C3 C4 ⊢
  rw [e1]
  simp only
  rw [e2]
  simp only
  rw [e3]
  simp only
  rw [e4]
  simp only
  clear e0 e1 e2 e3 e4 HNU HTX
  have I0 : Hid (RDI BB ((W.alloc (.cells #[.int .i64 0, .int .i64 0, .int .i64 0, .string ⟨#[]⟩, .string ⟨#[]⟩] 148)).alloc (.cells #[.int .i64 0, .int .i64 0, .int .i64 0] 205)) R s) := rd_kept h (up_al (up_alloc _ _) _)
  have G0 : Hid (W.grownBy ((W.alloc (.cells #[.int .i64 0, .int .i64 0, .int .i64 0, .string ⟨#[]⟩, .string ⟨#[]⟩] 148)).alloc (.cells #[.int .i64 0, .int .i64 0, .int .i64 0] 205)) (some R)) := grown_up (up_al (up_alloc _ _) _) _
  have BA : Hid (((W.alloc (.cells #[.int .i64 0, .int .i64 0, .int .i64 0, .string ⟨#[]⟩, .string ⟨#[]⟩] 148)).alloc (.cells #[.int .i64 0, .int .i64 0, .int .i64 0] 205)).heap[W.heap.size]? = some (.cells #[.int .i64 0, .int .i64 0, .int .i64 0, .string ⟨#[]⟩, .string ⟨#[]⟩] 148)) := blk_up (blk_new _ _) (up_alloc _ _)
  have BN : Hid (((W.alloc (.cells #[.int .i64 0, .int .i64 0, .int .i64 0, .string ⟨#[]⟩, .string ⟨#[]⟩] 148)).alloc (.cells #[.int .i64 0, .int .i64 0, .int .i64 0] 205)).heap[W.heap.size + 1]? = some (.cells #[.int .i64 0, .int .i64 0, .int .i64 0] 205)) := by
    have := blk_new (W.alloc (.cells #[.int .i64 0, .int .i64 0, .int .i64 0, .string ⟨#[]⟩, .string ⟨#[]⟩] 148)) (.cells #[.int .i64 0, .int .i64 0, .int .i64 0] 205)
    rw [show (W.alloc (.cells #[.int .i64 0, .int .i64 0, .int .i64 0, .string ⟨#[]⟩, .string ⟨#[]⟩] 148)).heap.size = W.heap.size + 1 by simp] at this
    exact this
  obtain ⟨w0, hw0⟩ : ∃ w0, w0 = ((W.alloc (.cells #[.int .i64 0, .int .i64 0, .int .i64 0, .string ⟨#[]⟩, .string ⟨#[]⟩] 148)).alloc (.cells #[.int .i64 0, .int .i64 0, .int .i64 0] 205)) := ⟨_, rfl⟩
  have HW0 : Hid (((W.alloc (.cells #[.int .i64 0, .int .i64 0, .int .i64 0, .string ⟨#[]⟩, .string ⟨#[]⟩] 148)).alloc (.cells #[.int .i64 0, .int .i64 0, .int .i64 0] 205)) = w0) := hw0.symm
  rw [← hw0] at I0 G0 BA BN
  clear hw0 h
  go_enter Tryz.func197, Tryz.ntmps197
  go_upto_region 2 with fail
  rw [HW0.out]
  clear HW0
  have HBR : Hid (BB ≤ R ∧ BB ≤ W.heap.size ∧ BB ≤ W.heap.size + 1) := by have := HB0.out; have := HR.out; unfold Hid; omega
  have HN3 : Hid (R ≠ W.heap.size ∧ R ≠ W.heap.size + 1 ∧ W.heap.size ≠ W.heap.size + 1 ∧ W.heap.size + 1 < w0.heap.size) := by have := HR.out; have := blk_lt BN.out; unfold Hid; omega
  have HLB : Hid (W.heap.size ≤ W.heap.size + 1) := Nat.le_succ _
  have hszS : Hid (w0.heap.size ≤ w0.heap.size) := Nat.le_refl _
  generalize W.heap.size + 1 = NB at *
  have HLA : Hid (W.heap.size ≤ W.heap.size) := Nat.le_refl _
  go_wp2_with fail
  refine wp_loop_rounds 4 ?_
  rw [rounds_succ]
  go_wp2_with fail
  refine (C0.out w0 I0.out).mono ?_
  rintro e x0 ⟨rfl, J0, K0⟩
  replace BA := hid (blk_grown BA.out K0.out (by intro q; injection q with q; exact HN3.out.1 q.symm))
  replace BN := hid (blk_grown BN.out K0.out (by intro q; injection q with q; exact HN3.out.2.1 q.symm))
  replace G0 := hid (grown_trans G0.out K0.out)
  have b0 := blk_cell BN.out 0 _ rfl
  have f0 := blk_frozen BN.out 0
  obtain ⟨y0, hy0⟩ : ∃ y0, y0 = x0.setCell ⟨NB, 0, none⟩ (.int .i64 n0) := ⟨_, rfl⟩
  have HY0 : Hid (x0.setCell ⟨NB, 0, none⟩ (.int .i64 n0) = y0) := hy0.symm
  have GG0 : Hid (x0.grownBy y0 (some NB)) := by rw [hy0]; exact grown_set x0 ⟨NB, 0, none⟩ _
  have BN0 : Hid (y0.heap[NB]? = some (.cells #[.int .i64 n0, .int .i64 0, .int .i64 0] 205)) := by rw [hy0]; exact blk_set BN.out 0 (.int .i64 n0)
  clear hy0
  replace BN := BN0
  replace BA := hid (blk_grown BA.out GG0.out (by intro q; injection q with q; exact HN3.out.2.2.1 q))
  replace I0 := hid (rd_far J0.out GG0.out HBR.out.2.2 HN3.out.2.1)
  have hsz0 : Hid (w0.heap.size ≤ y0.heap.size) := Nat.le_trans (hszS.out) (Nat.le_trans K0.out.size GG0.out.size)
  replace G0 : Hid (W.grownBy y0 (some R)) := grown_two G0.out GG0.out HLB.out
  clear BN0 J0 K0 GG0
  go_wp2_with fail
  rw [HY0.out]
  clear b0 f0 HY0
  rw [rounds_succ]
  go_wp2_with fail
  refine (C1.out y0 I0.out).mono ?_
  rintro e x1 ⟨rfl, J1, K1⟩
  replace BA := hid (blk_grown BA.out K1.out (by intro q; injection q with q; exact HN3.out.1 q.symm))
  replace BN := hid (blk_grown BN.out K1.out (by intro q; injection q with q; exact HN3.out.2.1 q.symm))
  replace G0 := hid (grown_trans G0.out K1.out)
  have b1 := blk_cell BN.out 1 _ rfl
  have f1 := blk_frozen BN.out 1
  obtain ⟨y1, hy1⟩ : ∃ y1, y1 = x1.setCell ⟨NB, 1, none⟩ (.int .i64 n1) := ⟨_, rfl⟩
  have HY1 : Hid (x1.setCell ⟨NB, 1, none⟩ (.int .i64 n1) = y1) := hy1.symm
  have GG1 : Hid (x1.grownBy y1 (some NB)) := by rw [hy1]; exact grown_set x1 ⟨NB, 1, none⟩ _
  have BN1 : Hid (y1.heap[NB]? = some (.cells #[.int .i64 n0, .int .i64 n1, .int .i64 0] 205)) := by rw [hy1]; exact blk_set BN.out 1 (.int .i64 n1)
  clear hy1
  replace BN := BN1
  replace BA := hid (blk_grown BA.out GG1.out (by intro q; injection q with q; exact HN3.out.2.2.1 q))
  replace I0 := hid (rd_far J1.out GG1.out HBR.out.2.2 HN3.out.2.1)
  have hsz1 : Hid (w0.heap.size ≤ y1.heap.size) := Nat.le_trans (hsz0.out) (Nat.le_trans K1.out.size GG1.out.size)
  replace G0 : Hid (W.grownBy y1 (some R)) := grown_two G0.out GG1.out HLB.out
  clear BN1 J1 K1 GG1
  go_wp2_with fail
  rw [HY1.out]
  clear b1 f1 HY1
  rw [rounds_succ]
  go_wp2_with fail
  refine (C2.out y1 I0.out).mono ?_
  rintro e x2 ⟨rfl, J2, K2⟩
  replace BA := hid (blk_grown BA.out K2.out (by intro q; injection q with q; exact HN3.out.1 q.symm))
  replace BN := hid (blk_grown BN.out K2.out (by intro q; injection q with q; exact HN3.out.2.1 q.symm))
  replace G0 := hid (grown_trans G0.out K2.out)
  have b2 := blk_cell BN.out 2 _ rfl
  have f2 := blk_frozen BN.out 2
  obtain ⟨y2, hy2⟩ : ∃ y2, y2 = x2.setCell ⟨NB, 2, none⟩ (.int .i64 n2) := ⟨_, rfl⟩
  have HY2 : Hid (x2.setCell ⟨NB, 2, none⟩ (.int .i64 n2) = y2) := hy2.symm
  have GG2 : Hid (x2.grownBy y2 (some NB)) := by rw [hy2]; exact grown_set x2 ⟨NB, 2, none⟩ _
  have BN2 : Hid (y2.heap[NB]? = some (.cells #[.int .i64 n0, .int .i64 n1, .int .i64 n2] 205)) := by rw [hy2]; exact blk_set BN.out 2 (.int .i64 n2)
  clear hy2
  replace BN := BN2
  replace BA := hid (blk_grown BA.out GG2.out (by intro q; injection q with q; exact HN3.out.2.2.1 q))
  replace I0 := hid (rd_far J2.out GG2.out HBR.out.2.2 HN3.out.2.1)
  have hsz2 : Hid (w0.heap.size ≤ y2.heap.size) := Nat.le_trans (hsz1.out) (Nat.le_trans K2.out.size GG2.out.size)
  replace G0 : Hid (W.grownBy y2 (some R)) := grown_two G0.out GG2.out HLB.out
  clear BN2 J2 K2 GG2
  go_wp2_with fail
  rw [HY2.out]
  clear b2 f2 HY2
  rw [rounds_succ]
  obtain ⟨z0, hz0⟩ : ∃ z0, z0 = y2.alloc (.cells #[.string ⟨#[]⟩, .string ⟨#[]⟩] 207) := ⟨_, rfl⟩
  have HZ0 : Hid (y2.alloc (.cells #[.string ⟨#[]⟩, .string ⟨#[]⟩] 207) = z0) := hz0.symm
  have uz : Hid (Below y2.heap.size y2 z0) := by rw [hz0]; exact up_alloc _ _
  have BT : Hid (z0.heap[y2.heap.size]? = some (.cells #[.string ⟨#[]⟩, .string ⟨#[]⟩] 207)) := by rw [hz0]; exact blk_new _ _
  clear hz0
  go_upto_region 8 with fail
  rw [HZ0.out]
  clear HZ0
  replace BA := hid (blk_up BA.out uz.out)
  replace BN := hid (blk_up BN.out uz.out)
  replace I0 := hid (rd_kept I0.out uz.out)
  replace G0 : Hid (W.grownBy z0 (some R)) := grown_trans G0.out (grown_up uz.out _)
  have HNT : Hid (R ≠ y2.heap.size ∧ W.heap.size ≠ y2.heap.size ∧ NB ≠ y2.heap.size ∧ BB ≤ y2.heap.size ∧ W.heap.size ≤ y2.heap.size) := by
    have h1 := hsz2.out
    have h2 := HN3.out.2.2.2
    have h3 := HR.out
    have h4 := HBR.out
    have h5 := HLB.out
    unfold Hid
    omega
  clear uz
  generalize y2.heap.size = NT at *
  go_wp2_with fail
  refine wp_loop_rounds 3 ?_
  rw [rounds_succ]
  go_wp2_with fail
  refine (C3.out z0 I0.out).mono ?_
  rintro e x3 ⟨rfl, J3, K3⟩
  replace BA := hid (blk_grown BA.out K3.out (by intro q; injection q with q; exact HN3.out.1 q.symm))
  replace BN := hid (blk_grown BN.out K3.out (by intro q; injection q with q; exact HN3.out.2.1 q.symm))
  replace BT := hid (blk_grown BT.out K3.out (by intro q; injection q with q; exact HNT.out.1 q.symm))
  replace G0 := hid (grown_trans G0.out K3.out)
  have b3 := blk_cell BT.out 0 _ rfl
  have f3 := blk_frozen BT.out 0
  obtain ⟨y3, hy3⟩ : ∃ y3, y3 = x3.setCell ⟨NT, 0, none⟩ (.string t3) := ⟨_, rfl⟩
  have HY3 : Hid (x3.setCell ⟨NT, 0, none⟩ (.string t3) = y3) := hy3.symm
  have GG3 : Hid (x3.grownBy y3 (some NT)) := by rw [hy3]; exact grown_set x3 ⟨NT, 0, none⟩ _
  have BT3 : Hid (y3.heap[NT]? = some (.cells #[.string t3, .string ⟨#[]⟩] 207)) := by rw [hy3]; exact blk_set BT.out 0 (.string t3)
  clear hy3
  replace BT := BT3
  replace BA := hid (blk_grown BA.out GG3.out (by intro q; injection q with q; exact HNT.out.2.1 q))
  replace BN := hid (blk_grown BN.out GG3.out (by intro q; injection q with q; exact HNT.out.2.2.1 q))
  replace I0 := hid (rd_far J3.out GG3.out HNT.out.2.2.2.1 HNT.out.1)
  replace G0 : Hid (W.grownBy y3 (some R)) := grown_two G0.out GG3.out HNT.out.2.2.2.2
  clear BT3 J3 K3 GG3
  go_wp2_with fail
  rw [HY3.out]
  clear b3 f3 HY3
  rw [rounds_succ]
  go_wp2_with fail
  refine (C4.out y3 I0.out).mono ?_
  rintro e x4 ⟨rfl, J4, K4⟩
  replace BA := hid (blk_grown BA.out K4.out (by intro q; injection q with q; exact HN3.out.1 q.symm))
  replace BN := hid (blk_grown BN.out K4.out (by intro q; injection q with q; exact HN3.out.2.1 q.symm))
  replace BT := hid (blk_grown BT.out K4.out (by intro q; injection q with q; exact HNT.out.1 q.symm))
  replace G0 := hid (grown_trans G0.out K4.out)
  have b4 := blk_cell BT.out 1 _ rfl
  have f4 := blk_frozen BT.out 1
  obtain ⟨y4, hy4⟩ : ∃ y4, y4 = x4.setCell ⟨NT, 1, none⟩ (.string t4) := ⟨_, rfl⟩
  have HY4 : Hid (x4.setCell ⟨NT, 1, none⟩ (.string t4) = y4) := hy4.symm
  have GG4 : Hid (x4.grownBy y4 (some NT)) := by rw [hy4]; exact grown_set x4 ⟨NT, 1, none⟩ _
  have BT4 : Hid (y4.heap[NT]? = some (.cells #[.string t3, .string t4] 207)) := by rw [hy4]; exact blk_set BT.out 1 (.string t4)
  clear hy4
  replace BT := BT4
  replace BA := hid (blk_grown BA.out GG4.out (by intro q; injection q with q; exact HNT.out.2.1 q))
  replace BN := hid (blk_grown BN.out GG4.out (by intro q; injection q with q; exact HNT.out.2.2.1 q))
  replace I0 := hid (rd_far J4.out GG4.out HNT.out.2.2.2.1 HNT.out.1)
  replace G0 : Hid (W.grownBy y4 (some R)) := grown_two G0.out GG4.out HNT.out.2.2.2.2
  clear BT4 J4 K4 GG4
  go_wp2_with fail
  rw [HY4.out]
  clear b4 f4 HY4
  rw [rounds_succ]
  have q0 := blk_cell BN.out 0 _ rfl
  have q1 := blk_cell BN.out 1 _ rfl
  have q2 := blk_cell BN.out 2 _ rfl
  have q3 := blk_cell BT.out 0 _ rfl
  have q4 := blk_cell BT.out 1 _ rfl
  have r0 := blk_cell BA.out 0 _ rfl
  have r1 := blk_cell BA.out 1 _ rfl
  have r2 := blk_cell BA.out 2 _ rfl
  have r3 := blk_cell BA.out 3 _ rfl
  have r4 := blk_cell BA.out 4 _ rfl
  have g0 := blk_frozen BA.out 0
  have g1 := blk_frozen BA.out 1
  have g2 := blk_frozen BA.out 2
  have g3 := blk_frozen BA.out 3
  have g4 := blk_frozen BA.out 4
  go_wp2_with fail
  refine bodyPost_ret (results_me rfl _ _ rfl (set5_blkE BA.out _ _ _ _ _)) rfl ?_
  refine ⟨rfl, rd_far I0.out (set5_grownE y4 W.heap.size _ _ _ _ _) HBR.out.2.1 HN3.out.1, grown_two G0.out (set5_grownE y4 W.heap.size _ _ _ _ _) (Nat.le_refl _)⟩
end Go.Proofs.YtnchjlimkgbfpaaGreatDoor
