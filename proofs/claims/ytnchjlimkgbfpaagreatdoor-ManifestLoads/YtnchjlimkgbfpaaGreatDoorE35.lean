/- The texts DDec, OBehi, FRecs, in this order. -/
import Derived.Test.YtnchjlimkgbfpaaGreatDoorDEd
import Derived.Test.YtnchjlimkgbfpaaGreatDoorE32
import Derived.Test.YtnchjlimkgbfpaaGreatDoorE19
import Derived.RangeFuncNested
import Derived.RangeFuncBound
import Derived.RangeFuncCalls
import Derived.RangeFuncLeaves
import Derived.Shelf.Abstract
import Derived.Shelf.RegionOpen
import Derived.OwnWalkIn
import Derived.TacticsInMore
import Derived.LoopNIn
import Derived.LoopIn

namespace Go.Proofs.YtnchjlimkgbfpaaGreatDoor
open Go.RowKit
set_option linter.unusedVariables false
set_option maxRecDepth 20000
set_option linter.unusedSimpArgs false
def finS (s : List Int × Int) : List Int × Int := if s.1 = [] then s else refS 23 s
theorem Twin.st {A : Type} {f : List Int × Int → A × (List Int × Int)} {q : List Int → Except Int (A × List Int)} (t : Twin f q) {c : Int} (hc : c ≠ 0) {v : A} {s s' : List Int × Int} (hs : s = ([], c)) (e : f s = (v, s')) : s' = ([], c) := by
  subst hs
  have := t.stay c hc
  rw [e] at this
  exact this
theorem fin_bad {c : Int} (hc : c ≠ 0) {s : List Int × Int} (hs : s = ([], c)) {A : Type} (x : A) : (Except.error c : Except Int A) = if (finS s).2 = 0 then .ok x else .error (finS s).2 := by
  subst hs
  unfold finS
  simp [hc]
theorem dec_chain {l : List Int} {s0 s1 s2 s3 s4 s5 : List Int × Int} {sq nx : Int} {n m : Nat} {ids : List Int} {ms : List Me}
    (e0 : numS (l, 0) = (sq, s0)) (e1 : numS s0 = (nx, s1)) (e2 : cntS s1 = ((n : Int), s2)) (e3 : idsS n s2 = (ids, s3)) (e4 : cntS s3 = ((m : Int), s4)) (e5 : metsS m s4 = (ms, s5)) :
    decE l = if (finS s5).2 = 0 then .ok (sq, nx, ids, ms) else .error (finS s5).2 := by
  unfold decE
  rcases numS_twin.at l with ⟨v, r, hq, hf⟩ | ⟨c, hq, hf, hc⟩
  rotate_left
  · rw [hq, e0] at *
    simp only at hf ⊢
    exact fin_bad hc ((metsS_twin m).st hc (cntS_twin.st hc ((idsS_twin n).st hc (cntS_twin.st hc (numS_twin.st hc hf e1) e2) e3) e4) e5) _
  rw [hf] at e0
  simp only [Prod.mk.injEq] at e0
  obtain ⟨rfl, rfl⟩ := e0
  rw [hq]
  simp only
  clear hq hf
  rcases numS_twin.at r with ⟨v1, r1, hq, hf⟩ | ⟨c, hq, hf, hc⟩
  rotate_left
  · rw [hq]
    rw [e1] at hf
    simp only at hf ⊢
    exact fin_bad hc ((metsS_twin m).st hc (cntS_twin.st hc ((idsS_twin n).st hc (cntS_twin.st hc hf e2) e3) e4) e5) _
  rw [hf] at e1
  simp only [Prod.mk.injEq] at e1
  obtain ⟨rfl, rfl⟩ := e1
  rw [hq]
  simp only
  clear hq hf
  rcases cntS_twin.at r1 with ⟨v2, r2, hq, hf⟩ | ⟨c, hq, hf, hc⟩
  rotate_left
  · rw [hq]
    rw [e2] at hf
    simp only at hf ⊢
    exact fin_bad hc ((metsS_twin m).st hc (cntS_twin.st hc ((idsS_twin n).st hc hf e3) e4) e5) _
  rw [hf] at e2
  simp only [Prod.mk.injEq] at e2
  obtain ⟨rfl, rfl⟩ := e2
  rw [hq]
  simp only [Int.toNat_natCast]
  clear hq hf
  rcases (idsS_twin n).at r2 with ⟨v3, r3, hq, hf⟩ | ⟨c, hq, hf, hc⟩
  rotate_left
  · rw [hq]
    rw [e3] at hf
    simp only at hf ⊢
    exact fin_bad hc ((metsS_twin m).st hc (cntS_twin.st hc hf e4) e5) _
  rw [hf] at e3
  simp only [Prod.mk.injEq] at e3
  obtain ⟨rfl, rfl⟩ := e3
  rw [hq]
  simp only
  clear hq hf
  rcases cntS_twin.at r3 with ⟨v4, r4, hq, hf⟩ | ⟨c, hq, hf, hc⟩
  rotate_left
  · rw [hq]
    rw [e4] at hf
    simp only at hf ⊢
    exact fin_bad hc ((metsS_twin m).st hc hf e5) _
  rw [hf] at e4
  simp only [Prod.mk.injEq] at e4
  obtain ⟨rfl, rfl⟩ := e4
  rw [hq]
  simp only [Int.toNat_natCast]
  clear hq hf
  rcases (metsS_twin m).at r4 with ⟨v5, r5, hq, hf⟩ | ⟨c, hq, hf, hc⟩
  rotate_left
  · rw [hq]
    rw [e5] at hf
    simp only at hf ⊢
    exact fin_bad hc hf _
  rw [hf] at e5
  simp only [Prod.mk.injEq] at e5
  obtain ⟨rfl, rfl⟩ := e5
  rw [hq]
  simp only
  unfold finS
  by_cases hr : r5 = []
  · simp [hr]
  · simp [hr, refS]
theorem cntS_bound (s : List Int × Int) (hx : ∀ x ∈ s.1, 0 ≤ x ∧ x ≤ 255) : 0 ≤ (cntS s).1 ∧ (cntS s).1 ≤ 256 := by
  have := numS_bound s hx
  unfold cntS
  split
  · simp
  · omega
theorem below_of_grown {W x y : World} {B R : Nat} (h : Below B W x) (hB : B ≤ W.heap.size) (g : x.grownBy y (some R)) (hR : B ≤ R) : Below B W y :=
  ⟨g.os.trans h.os, g.tape.trans h.tape, g.output.trans h.output, Nat.le_trans h.size g.size, fun i hi => (g.block i (Nat.lt_of_lt_of_le hi (Nat.le_trans hB h.size)) (by intro q; injection q with q; omega)).trans (h.block i hi)⟩
theorem below_drew {B : Nat} {W x : World} (h : Below B W x) : Below B W x.drew := ⟨h.os, h.tape, h.output, h.size, h.block⟩
def DecS (l : List Int) (c sq nx : Int) (ids : List Int) (ms : List Me) : Prop :=
  (c = 0 ∧ decE l = .ok (sq, nx, ids, ms)) ∨ (c ≠ 0 ∧ decE l = .error c ∧ sq = 0 ∧ nx = 0 ∧ ids = [] ∧ ms = [])
theorem oct_num {s s' : List Int × Int} {v : Int} (h : ∀ x ∈ s.1, 0 ≤ x ∧ x ≤ 255) (e : numS s = (v, s')) : ∀ x ∈ s'.1, 0 ≤ x ∧ x ≤ 255 := by
  unfold numS at e
  split at e
  · simp only [Prod.mk.injEq] at e
    rw [← e.2]
    exact fun x hx => h x (List.mem_of_mem_drop hx)
  · simp only [Prod.mk.injEq] at e
    rw [← e.2]
    intro x hx
    simp [refS] at hx
theorem oct_cnt {s s' : List Int × Int} {v : Int} (h : ∀ x ∈ s.1, 0 ≤ x ∧ x ≤ 255) (e : cntS s = (v, s')) : ∀ x ∈ s'.1, 0 ≤ x ∧ x ≤ 255 := by
  unfold cntS at e
  split at e
  · simp only [Prod.mk.injEq] at e
    rw [← e.2]
    intro x hx
    simp [refS] at hx
  · exact oct_num h e
theorem oct_ids : ∀ {n : Nat} {s s' : List Int × Int} {v : List Int}, (∀ x ∈ s.1, 0 ≤ x ∧ x ≤ 255) → idsS n s = (v, s') → ∀ x ∈ s'.1, 0 ≤ x ∧ x ≤ 255
  | 0, s, s', v, h, e => by
    simp only [idsS, Prod.mk.injEq] at e
    rw [← e.2]; exact h
  | n + 1, s, s', v, h, e => by
    simp only [idsS, Prod.mk.injEq] at e
    obtain ⟨⟨i, t⟩, ht⟩ : ∃ p, numS s = p := ⟨_, rfl⟩
    rw [ht] at e
    simp only at e
    exact oct_ids (n := n) (s := t) (v := (idsS n t).1) (oct_num h ht) (by rw [← e.2])
set_option maxHeartbeats 2000000 in
set_option maxRecDepth 100000 in
theorem decode_any (l : List Int) (a : Option Addr) (k c : Nat) (W : World) (h : Octs W (.slice a k c) l) :
    Calls Tryz.prog 136 #[.slice a k c] W fun e w' => ∃ ad nd cd am nm cm sq nx y ids ms, e = .returned (.tuple #[.agg #[.slice ad nd cd, .slice am nm cm, .int .i64 sq, .int .i64 nx], .int .i64 y]) ∧ Hid (OwnR w' W.heap.size 3 1 (.slice ad nd cd) (ids.map irow)) ∧ Hid (OwnR w' W.heap.size 148 5 (.slice am nm cm) (ms.map meRow)) ∧ Hid (Below W.heap.size W w') ∧ Hid (DecS l y sq nx ids ms) := by
  have hx : ∀ x ∈ ((l, (0 : Int)) : List Int × Int).1, 0 ≤ x ∧ x ≤ 255 := h.1
  obtain ⟨⟨sq, s0⟩, e0⟩ : ∃ p, numS (l, 0) = p := ⟨_, rfl⟩
  obtain ⟨⟨nx, s1⟩, e1⟩ : ∃ p, numS s0 = p := ⟨_, rfl⟩
  obtain ⟨⟨n', s2⟩, e2⟩ : ∃ p, cntS s1 = p := ⟨_, rfl⟩
  have x1 := oct_num (oct_num hx e0) e1
  have b2 := cntS_bound s1 x1
  rw [e2] at b2
  simp only at b2
  obtain ⟨n, rfl⟩ : ∃ n : Nat, n' = (n : Int) := ⟨n'.toNat, by omega⟩
  obtain ⟨⟨ids, s3⟩, e3⟩ : ∃ p, idsS n s2 = p := ⟨_, rfl⟩
  obtain ⟨⟨m', s4⟩, e4⟩ : ∃ p, cntS s3 = p := ⟨_, rfl⟩
  have x3 := oct_ids (oct_cnt x1 e2) e3
  have b4 := cntS_bound s3 x3
  rw [e4] at b4
  simp only at b4
  obtain ⟨m, rfl⟩ : ∃ m : Nat, m' = (m : Int) := ⟨m'.toNat, by omega⟩
  obtain ⟨⟨ms, s5⟩, e5⟩ : ∃ p, metsS m s4 = p := ⟨_, rfl⟩
  have HD := hid (dec_chain e0 e1 e2 e3 e4 e5)
  have hsz : (W.alloc (.cells #[.slice none 0 0, .slice none 0 0, .int .i64 0, .int .i64 0] 42)).heap.size = W.heap.size + 1 := by simp
  have BT : Hid (((W.alloc (.cells #[.slice none 0 0, .slice none 0 0, .int .i64 0, .int .i64 0] 42)).alloc (.cells #[.slice a k c, .int .i64 0] 258)).heap[W.heap.size]? = some (.cells #[.slice none 0 0, .slice none 0 0, .int .i64 0, .int .i64 0] 42)) := blk_up (blk_new _ _) (up_alloc _ _)
  have HRD : Hid (RDI W.heap.size ((W.alloc (.cells #[.slice none 0 0, .slice none 0 0, .int .i64 0, .int .i64 0] 42)).alloc (.cells #[.slice a k c, .int .i64 0] 258)) (W.heap.size + 1) (l, 0)) := by
    refine ⟨Nat.le_succ _, a, k, c, ?_, h.up (up_al (up_alloc _ _) _), fun b hb hn => h.lt b hb hn⟩
    have := blk_new (W.alloc (.cells #[.slice none 0 0, .slice none 0 0, .int .i64 0, .int .i64 0] 42)) (.cells #[.slice a k c, .int .i64 0] 258)
    rw [hsz] at this
    exact this
  have UW : Hid (Below W.heap.size W ((W.alloc (.cells #[.slice none 0 0, .slice none 0 0, .int .i64 0, .int .i64 0] 42)).alloc (.cells #[.slice a k c, .int .i64 0] 258))) := up_al (up_alloc _ _) _
  have HED := hid (edit_any W.heap.size (W.heap.size + 1) (l, 0) s0 s1 s2 s3 s4 s5 sq nx n m ids ms _ HRD.out UW.out.size e0 e1 e2 e3 e4 e5 (by omega) (by omega))
  clear e0 e1 e2 e3 e4 e5 x1 x3 b2 b4 hx h hsz HRD
  obtain ⟨w0, hw0⟩ : ∃ w0, w0 = ((W.alloc (.cells #[.slice none 0 0, .slice none 0 0, .int .i64 0, .int .i64 0] 42)).alloc (.cells #[.slice a k c, .int .i64 0] 258)) := ⟨_, rfl⟩
  have HW0 : Hid (((W.alloc (.cells #[.slice none 0 0, .slice none 0 0, .int .i64 0, .int .i64 0] 42)).alloc (.cells #[.slice a k c, .int .i64 0] 258)) = w0) := hw0.symm
  rw [← hw0] at UW BT HED
  clear hw0
  go_enter Tryz.func136, Tryz.ntmps136
  go_upto_region 2 with fail
  rw [HW0.out]
  clear HW0
  have HRN : Hid (W.heap.size ≤ W.heap.size + 1 ∧ W.heap.size ≠ W.heap.size + 1) := by unfold Hid; omega
  generalize W.heap.size + 1 = R at *
  generalize hNT : W.heap.size = NT at *
  go_wp2_with fail
  refine HED.out.mono ?_
  rintro e w1 ⟨ad, nd, cd, am, nm, cm, rfl, O1, P1, R1, G1⟩
  replace BT := hid (blk_grown BT.out G1.out (by intro q; injection q with q; exact HRN.out.2 q))
  have UA : Hid (Below w1.heap.size w1 (w1.alloc (.cells #[.slice ad nd cd, .slice am nm cm, .int .i64 sq, .int .i64 nx] 42))) := up_alloc _ _
  have BX : Hid ((w1.alloc (.cells #[.slice ad nd cd, .slice am nm cm, .int .i64 sq, .int .i64 nx] 42)).heap[w1.heap.size]? = some (.cells #[.slice ad nd cd, .slice am nm cm, .int .i64 sq, .int .i64 nx] 42)) := blk_new _ _
  have HNX : Hid (R < w1.heap.size) := by obtain ⟨_, a, n, c, hb, _⟩ := R1.out; exact blk_lt hb
  obtain ⟨w2, hw2⟩ : ∃ w2, w2 = w1.alloc (.cells #[.slice ad nd cd, .slice am nm cm, .int .i64 sq, .int .i64 nx] 42) := ⟨_, rfl⟩
  have HW2 : Hid (w1.alloc (.cells #[.slice ad nd cd, .slice am nm cm, .int .i64 sq, .int .i64 nx] 42) = w2) := hw2.symm
  rw [← hw2] at UA BX
  clear hw2
  have S0 := UW.out.size
  replace BT := hid (blk_up BT.out UA.out)
  replace O1 : Hid (OwnR w2 NT 3 1 (.slice ad nd cd) (ids.map irow)) := (O1.out.up UA.out).mono (by omega)
  replace P1 : Hid (OwnR w2 NT 148 5 (.slice am nm cm) (ms.map meRow)) := (P1.out.up UA.out).mono (by omega)
  replace R1 := hid (rd_kept R1.out UA.out)
  have U2 : Hid (Below NT W w2) := (below_of_grown UW.out (by omega) G1.out HRN.out.1).trans ⟨UA.out.os, UA.out.tape, UA.out.output, UA.out.size, fun i hi => UA.out.block i (by have := G1.out.size; omega)⟩
  clear G1 UA S0 UW HED
  have HEN := hid (end_any NT R s5 w2 R1.out)
  obtain ⟨_, xa, xn, xc, RB2', _, _⟩ := R1.out
  have RB2 := hid RB2'
  clear R1 RB2'
  go_upto_region 3 with fail
  rw [HW2.out]
  clear HW2
  generalize w1.heap.size = NX at *
  go_wp2_with fail
  refine HEN.out.mono ?_
  rintro e w3 ⟨rfl, R3, G3⟩
  have HFS : (if s5.1 = [] then s5 else refS 23 s5) = finS s5 := rfl
  rw [HFS] at R3
  clear HFS
  replace BT := hid (blk_grown BT.out G3.out (by intro q; injection q with q; exact HRN.out.2 q))
  replace BX := hid (blk_grown BX.out G3.out (by intro q; injection q with q; have := HNX.out; omega))
  have U3 : Hid (Below NT W w3) := below_of_grown U2.out (by omega) G3.out HRN.out.1
  obtain ⟨t, ht⟩ : ∃ t, finS s5 = t := ⟨_, rfl⟩
  rw [ht] at R3 HD
  clear ht HEN
  obtain ⟨_, ra, rn, rc, RB, _, _⟩ := R3.out
  obtain ⟨t1, y⟩ := t
  simp only at RB HD
  have HRB : Hid (w3.heap[R]? = some (.cells #[.slice ra rn rc, .int .i64 y] 258)) := RB
  have O3 := hid (O1.out.far G3.out (own_blk_ne O1.out.2 RB2.out (by decide)))
  have P3 := hid (P1.out.far G3.out (own_blk_ne P1.out.2 RB2.out (by decide)))
  clear O1 P1 RB2 R3 G3 U2
  have r1 := blk_cell RB 1 _ rfl
  clear RB
  have z0 := blk_cell BT.out 0 _ rfl
  have z1 := blk_cell BT.out 1 _ rfl
  have z2 := blk_cell BT.out 2 _ rfl
  have z3 := blk_cell BT.out 3 _ rfl
  have g0 := blk_frozen BT.out 0
  have g1 := blk_frozen BT.out 1
  have g2 := blk_frozen BT.out 2
  have g3 := blk_frozen BT.out 3
  by_cases hy : y = 0
  · subst hy
    rw [if_pos rfl] at HD
    have c0 := blk_cell BX.out 0 _ rfl
    have c1 := blk_cell BX.out 1 _ rfl
    have c2 := blk_cell BX.out 2 _ rfl
    have c3 := blk_cell BX.out 3 _ rfl
    go_wp2_with fail
    subst hNT
    refine bodyPost_ret (results_edt rfl (.inl rfl) _ _ rfl (set4_blk BT.out _ _ _ _)) rfl ?_
    have G4 := set4_grown w3 W.heap.size (.slice ad nd cd) (.slice am nm cm) (.int .i64 sq) (.int .i64 nx)
    exact ⟨ad, nd, cd, am, nm, cm, sq, nx, 0, ids, ms, rfl, O3.out.far G4 (own_blk_ne O3.out.2 BT.out (by decide)), P3.out.far G4 (own_blk_ne P3.out.2 BT.out (by decide)), below_of_grown U3.out (by omega) G4 (Nat.le_refl _), .inl ⟨rfl, HD.out⟩⟩
  · rw [if_neg hy] at HD
    have hy' : (y == 0) = false := by simp [hy]
    have hn1 : ¬ NT = R := HRN.out.2
    have hn2 : ¬ R = NT := fun q => HRN.out.2 q.symm
    have G4 := hid (set4_grown w3.drew NT (.slice none 0 0) (.slice none 0 0) (.int .i64 0) (.int .i64 0))
    have BT4 := hid (set4_blk (blk_up BT.out (up_dr (Below.refl _ _))) (.slice none 0 0) (.slice none 0 0) (.int .i64 0) (.int .i64 0))
    have U4 : Hid (Below NT W w3.drew) := below_drew U3.out
    have HY : Hid (y ≠ 0) := hy
    clear hy
    go_upto_region 5 with fail
    go_region
    all_goals go_wp2_with fail
    subst hNT
    refine bodyPost_ret (results_edt rfl (.inl rfl) _ _ rfl BT4.out) rfl ?_
    exact ⟨none, 0, 0, none, 0, 0, 0, 0, y, [], [], rfl, OwnR.nil _ _ _ _, OwnR.nil _ _ _ _, below_of_grown U4.out (by omega) G4.out (Nat.le_refl _), .inr ⟨HY.out, HD.out, rfl, rfl, rfl, rfl⟩⟩
end Go.Proofs.YtnchjlimkgbfpaaGreatDoor

namespace Go.Proofs.YtnchjlimkgbfpaaGreatDoor
open Go.RowKit
set_option linter.unusedVariables false
set_option linter.unusedSimpArgs false
set_option maxRecDepth 20000
def VerP (w : World) (base : Nat) (o : Option Vn) (a : Option Addr) (n c : Nat) (s x : Int) : Prop := ∀ v, o = some v → OwnR w base 148 5 (.slice a n c) (v.1.map meRow) ∧ s = v.2.1 ∧ x = v.2.2
def BehE (w : World) (o : Option Vn) (e : Ending) (w' : World) : Prop := ∃ a n c s x, e = .returned (.tuple #[.agg #[.slice a n c, .int .i64 s, .int .i64 x], .bool o.isSome]) ∧ Hid (VerP w' w.heap.size o a n c s x) ∧ Hid (Below w.heap.size w w')
theorem dec_ok {l : List Int} (hx : OctA l) {s x : Int} {is : List Int} {ms : List Me} (h : decE l = .ok (s, x, is, ms)) : (∀ i ∈ is, In64 i) ∧ ms.length ≤ 256 := by
  have e := enc_decE hx h
  have := encE_zero.1 (show (encE s x is ms).2 = 0 by rw [e])
  refine ⟨fun i hi => ?_, this.2.1⟩
  have q := numE_iff.1 (this.2.2.2.2.1 i hi)
  unfold In64
  omega
theorem up_set3 {w W : World} {N : Nat} {a b c : Value} (h : Below w.heap.size w W) (hN : w.heap.size ≤ N) : Below w.heap.size w (((W.setCell ⟨N, 0, none⟩ a).setCell ⟨N, 1, none⟩ b).setCell ⟨N, 2, none⟩ c) :=
  h.grown (set3_grown W N a b c) h.size (fun k hk => by injection hk with hk; omega)
set_option maxHeartbeats 4000000 in
theorem behind_any (ts : List Me) (seq next k : Int) (d : List Int) (va da : Option Addr) (vn vc dn dc : Nat) (w : World) (hv : MetsR w (.slice va vn vc) ts) (hd : Octs w (.slice da dn dc) d) :
    Calls Tryz.prog 93 #[.agg #[.slice va vn vc, .int .i64 seq, .int .i64 next], .agg #[.int .i64 k, .slice da dn dc]] w (BehE w (stepM (ts, seq, next) k d)) := by
  obtain ⟨Post, hP⟩ : ∃ Post : Ending → World → Prop, Post = BehE w (stepM (ts, seq, next) k d) := ⟨_, rfl⟩
  have HPost : Hid (∀ e w', BehE w (stepM (ts, seq, next) k d) e w' → Post e w') := fun e w' h => by rw [hP]; exact h
  rw [← hP]
  clear hP
  have HV : Hid (MetsR w (.slice va vn vc) ts) := hv
  have HD : Hid (Octs w (.slice da dn dc) d) := hd
  obtain ⟨w0, hw0⟩ : ∃ w0, w0 = ((w.alloc (.cells #[.slice va vn vc, .int .i64 seq, .int .i64 next] 39)).alloc (.cells #[.int .i64 k, .slice da dn dc] 154)).alloc (.cells #[.slice none 0 0, .int .i64 0, .int .i64 0] 39) := ⟨_, rfl⟩
  have HW0 : Hid (((w.alloc (.cells #[.slice va vn vc, .int .i64 seq, .int .i64 next] 39)).alloc (.cells #[.int .i64 k, .slice da dn dc] 154)).alloc (.cells #[.slice none 0 0, .int .i64 0, .int .i64 0] 39) = w0) := hid hw0.symm
  have U0 : Hid (Below w.heap.size w w0) := by rw [hw0]; exact up_al (up_al (up_alloc _ _) _) _
  have B0 : Hid (w0.heap[w.heap.size]? = some (.cells #[.slice va vn vc, .int .i64 seq, .int .i64 next] 39)) := by rw [hw0]; exact blk_up (blk_new _ _) (up_al (up_alloc _ _) _)
  have sz1 : ∀ (W : World) (o : Obj), (W.alloc o).heap.size = W.heap.size + 1 := fun W o => by simp
  have B1 : Hid (w0.heap[w.heap.size + 1]? = some (.cells #[.int .i64 k, .slice da dn dc] 154)) := by
    rw [hw0, ← sz1 w (.cells #[.slice va vn vc, .int .i64 seq, .int .i64 next] 39)]
    exact blk_up (blk_new _ _) (up_alloc _ _)
  have B2 : Hid (w0.heap[w.heap.size + 1 + 1]? = some (.cells #[.slice none 0 0, .int .i64 0, .int .i64 0] 39)) := by
    rw [hw0, ← sz1 w (.cells #[.slice va vn vc, .int .i64 seq, .int .i64 next] 39), ← sz1 _ (.cells #[.int .i64 k, .slice da dn dc] 154)]
    exact blk_new _ _
  have SZ : Hid (w0.heap.size = w.heap.size + 1 + 1 + 1) := by rw [hw0]; unfold Hid; simp
  clear hw0 hv hd sz1
  have x0 := blk_cell B0.out 0 _ rfl
  have x1 := blk_cell B0.out 1 _ rfl
  have x2 := blk_cell B0.out 2 _ rfl
  have y0 := blk_cell B1.out 0 _ rfl
  have y1 := blk_cell B1.out 1 _ rfl
  have z0 := blk_cell B2.out 0 _ rfl
  have z1 := blk_cell B2.out 1 _ rfl
  have z2 := blk_cell B2.out 2 _ rfl
  have f0 := blk_frozen B2.out 0
  have f1 := blk_frozen B2.out 1
  have f2 := blk_frozen B2.out 2
  have HSt : Hid (∀ u : Vn, True) := fun _ => trivial
  have HSd : Hid (stepM (ts, seq, next) k d = if k = 5 then (match decE d with
    | .error _ => none
    | .ok (sq, nx, dr, ad) => if (appM ts seq next dr ad sq nx).2 = 0 then some ((appM ts seq next dr ad sq nx).1, sq, nx) else none) else none) := rfl
  go_enter Tryz.func93, Tryz.ntmps93
  go_upto_region 1 with fail
  rw [HW0.out]
  clear HW0 HSt
  generalize hN2 : w.heap.size + 1 + 1 = N2 at *
  have HN2 : Hid (w.heap.size ≤ N2) := by unfold Hid; omega
  by_cases c1 : k = 5
  case neg =>
    have c1b : (k != 5) = true := by simpa using c1
    have HS1 : Hid (stepM (ts, seq, next) k d = none) := by rw [HSd.out, if_neg c1]; rfl
    clear HSd c1
    go_wp2_with fail
    refine bodyPost_ret (results_ver rfl (.inl rfl) _ _ rfl (set3_blk B2.out _ _ _)) rfl ?_
    refine HPost.out _ _ ?_
    rw [HS1.out]
    exact ⟨_, _, _, _, _, rfl, (fun v hv => by cases hv), up_set3 U0.out HN2.out⟩
  case pos =>
    subst c1
    have hst : stepM (ts, seq, next) 5 d = (match decE d with
      | .error _ => none
      | .ok (sq, nx, dr, ad) => if (appM ts seq next dr ad sq nx).2 = 0 then some ((appM ts seq next dr ad sq nx).1, sq, nx) else none) := by rw [HSd.out, if_pos rfl]
    have HS1 := hid hst
    clear HSd hst
    have HDc := hid (decode_any d da dn dc w0 (HD.out.up U0.out))
    have hda := HD.out.1
    have HDo : Hid (OctA d) := hda
    clear hda
    go_wp2_with fail
    refine HDc.out.mono ?_
    rintro e w1 ⟨ad, nd, cd, am, nm, cm, sq, nx, y, ids, ms, rfl, oi, om, hb, HDS⟩
    obtain ⟨w2, hw2⟩ : ∃ w2, w2 = w1.alloc (.cells #[.slice ad nd cd, .slice am nm cm, .int .i64 sq, .int .i64 nx] 42) := ⟨_, rfl⟩
    have HW2 : Hid (w1.alloc (.cells #[.slice ad nd cd, .slice am nm cm, .int .i64 sq, .int .i64 nx] 42) = w2) := hid hw2.symm
    have V1 := hid hb.out
    have V2 : Hid (Below w1.heap.size w1 w2) := by rw [hw2]; exact up_alloc _ _
    have V02 : Hid (Below w0.heap.size w0 w2) := up_trans V1.out V2.out
    have U2 : Hid (Below w.heap.size w w2) := up_trans U0.out V02.out
    have B4 : Hid (w2.heap[w1.heap.size]? = some (.cells #[.slice ad nd cd, .slice am nm cm, .int .i64 sq, .int .i64 nx] 42)) := by rw [hw2]; exact blk_new _ _
    have I2 : Hid (IntsR w2 (.slice ad nd cd) ids) := (Rws.own oi.out).up V2.out
    have M2 : Hid (MetsR w2 (.slice am nm cm) ms) := (Rws.own om.out).up V2.out
    have B22 : Hid (w2.heap[N2]? = some (.cells #[.slice none 0 0, .int .i64 0, .int .i64 0] 39)) := blk_up B2.out V02.out
    have B02 : Hid (w2.heap[w.heap.size]? = some (.cells #[.slice va vn vc, .int .i64 seq, .int .i64 next] 39)) := blk_up B0.out V02.out
    clear hw2 oi om hb HDc x0 x1 x2 y0 y1 z0 z1 z2 f0 f1 f2 V1 V2
    go_upto_region 4 with fail
    rw [HW2.out]
    clear HW2
    have z0 := blk_cell B22.out 0 _ rfl
    have z1 := blk_cell B22.out 1 _ rfl
    have z2 := blk_cell B22.out 2 _ rfl
    have f0 := blk_frozen B22.out 0
    have f1 := blk_frozen B22.out 1
    have f2 := blk_frozen B22.out 2
    rcases HDS.out with ⟨hy, hdec⟩ | ⟨hy, hdec, -⟩
    case inr =>
      have c1b : (y != 0) = true := by simpa using hy
      have HS2 : Hid (stepM (ts, seq, next) 5 d = none) := by rw [HS1.out, hdec]; rfl
      clear HS1 hdec hy HDS
      go_wp2_with fail
      refine bodyPost_ret (results_ver rfl (.inl rfl) _ _ rfl (set3_blk B22.out _ _ _)) rfl ?_
      refine HPost.out _ _ ?_
      rw [HS2.out]
      exact ⟨_, _, _, _, _, rfl, (fun v hv => by cases hv), up_set3 U2.out HN2.out⟩
    case inl =>
      subst hy
      have HOk := hid (dec_ok HDo.out hdec)
      obtain ⟨R, hR⟩ : ∃ R, R = appM ts seq next ids ms sq nx := ⟨_, rfl⟩
      have HA := hid (apply_any ts seq next ids ms sq nx va ad am vn vc nd cd nm cm w2 (HV.out.up U2.out) I2.out M2.out HOk.out.1 (by have := HOk.out.2; omega))
      rw [← hR] at HA
      have HS2 : Hid (stepM (ts, seq, next) 5 d = if R.2 = 0 then some (R.1, sq, nx) else none) := by rw [HS1.out, hdec, hR]; rfl
      clear HS1 hdec HDS hR
      have x0 := blk_cell B02.out 0 _ rfl
      have x1 := blk_cell B02.out 1 _ rfl
      have x2 := blk_cell B02.out 2 _ rfl
      have y0 := blk_cell B4.out 0 _ rfl
      have y1 := blk_cell B4.out 1 _ rfl
      have y2 := blk_cell B4.out 2 _ rfl
      have y3 := blk_cell B4.out 3 _ rfl
      have HA2 : Hid (Calls Tryz.prog 137 #[.agg #[.slice va vn vc, .int .i64 seq, .int .i64 next], .agg #[.slice ad nd cd, .slice am nm cm, .int .i64 sq, .int .i64 nx]] w2 fun e w' => ∃ a l c s x, e = .returned (.tuple #[.agg #[.slice a l c, .int .i64 s, .int .i64 x], .int .i64 R.2]) ∧ Hid (s = (if R.2 = 0 then sq else 0) ∧ x = (if R.2 = 0 then nx else 0)) ∧ Hid (OwnR w' w2.heap.size 148 5 (.slice a l c) (R.1.map meRow)) ∧ Hid (Below w2.heap.size w2 w')) := by
        refine HA.out.mono ?_
        rintro e w' ⟨a, l, c, rfl, o, b⟩
        exact ⟨a, l, c, _, _, rfl, ⟨rfl, rfl⟩, o, b⟩
      clear HA
      go_wp2_with fail
      refine HA2.out.mono ?_
      rintro e w3 ⟨a3, n3, c3, s3, n3x, rfl, HSx, O3, b3⟩
      obtain ⟨w4, hw4⟩ : ∃ w4, w4 = w3.alloc (.cells #[.slice a3 n3 c3, .int .i64 s3, .int .i64 n3x] 39) := ⟨_, rfl⟩
      have HW4 : Hid (w3.alloc (.cells #[.slice a3 n3 c3, .int .i64 s3, .int .i64 n3x] 39) = w4) := hid hw4.symm
      have V4 : Hid (Below w3.heap.size w3 w4) := by rw [hw4]; exact up_alloc _ _
      have V24 : Hid (Below w2.heap.size w2 w4) := up_trans b3.out V4.out
      have U4 : Hid (Below w.heap.size w w4) := up_trans U2.out V24.out
      have B8 : Hid (w4.heap[w3.heap.size]? = some (.cells #[.slice a3 n3 c3, .int .i64 s3, .int .i64 n3x] 39)) := by rw [hw4]; exact blk_new _ _
      have B24 : Hid (w4.heap[N2]? = some (.cells #[.slice none 0 0, .int .i64 0, .int .i64 0] 39)) := blk_up B22.out V24.out
      have O4 : Hid (OwnR w4 w2.heap.size 148 5 (.slice a3 n3 c3) (R.1.map meRow)) := O3.out.up V4.out
      clear hw4 O3 b3 HA2 x0 x1 x2 y0 y1 y2 y3 z0 z1 z2 f0 f1 f2
      go_upto_region 7 with fail
      rw [HW4.out]
      clear HW4
      have z0 := blk_cell B24.out 0 _ rfl
      have z1 := blk_cell B24.out 1 _ rfl
      have z2 := blk_cell B24.out 2 _ rfl
      have f0 := blk_frozen B24.out 0
      have f1 := blk_frozen B24.out 1
      have f2 := blk_frozen B24.out 2
      have q0 := blk_cell B8.out 0 _ rfl
      have q1 := blk_cell B8.out 1 _ rfl
      have q2 := blk_cell B8.out 2 _ rfl
      have HSome : Hid ((stepM (ts, seq, next) 5 d).isSome = (R.2 == 0)) := by
        unfold Hid
        rw [HS2.out]
        by_cases q : R.2 = 0
        · rw [if_pos q]; simp [q]
        · rw [if_neg q]; simp [q]
      go_wp2_with fail
      refine bodyPost_ret (results_ver rfl (.inl rfl) _ _ rfl (set3_blk B24.out _ _ _)) rfl ?_
      refine HPost.out _ _ ?_
      refine ⟨a3, n3, c3, s3, n3x, by rw [HSome.out]; rfl, ?_, up_set3 U4.out HN2.out⟩
      intro v hv
      rw [HS2.out] at hv
      by_cases q : R.2 = 0
      · rw [if_pos q] at hv
        injection hv with hv
        subst hv
        have hs := HSx.out
        rw [if_pos q, if_pos q] at hs
        refine ⟨?_, hs.1, hs.2⟩
        refine ((O4.out.mono U2.out.size).far (set3_grown w4 N2 _ _ _) ?_)
        exact own_blk_ne O4.out.2 B24.out (by decide)
      · rw [if_neg q] at hv; cases hv
end Go.Proofs.YtnchjlimkgbfpaaGreatDoor

namespace Go.Proofs.YtnchjlimkgbfpaaGreatDoor
open Go.RowKit Go.Shelf SumPlain
set_option linter.unusedVariables false
set_option maxRecDepth 20000
attribute [local go_sem] Oper.semAt_some
abbrev Got := Value × Int × List Int × Nat
def Got.plain (x : Got) : Int × List Int × Nat := x.2
theorem cut_off {w : World} {bb o cap off : Nat} {sp : Option Nat} {b : List Int} (h : Octs w (.slice (some ⟨bb, o, sp⟩) b.length cap) b) (ho : off ≤ b.length) (hc : b.length ≤ cap) : Octs w (.slice (some ⟨bb, o + off, sp⟩) (b.length - off) (cap - off)) (b.drop off) := by
  by_cases hb : b = []
  · subst hb
    simp at ho
    subst ho
    simp
    exact ⟨by simp, .inl ⟨rfl, _, _, rfl, fun h => by cases h⟩⟩
  · have hsp : sp = none := by
      rcases h.2 with ⟨e, _⟩ | ⟨_, b', off', cap', e, _⟩
      · exact absurd e hb
      · simp at e
        exact e.1.2.2
    subst hsp
    exact h.back rfl off ho hc
set_option maxHeartbeats 2000000 in
theorem recs_in (m l Bn n₀ : Nat) (b : List Int) (a : Option Addr) (cap : Nat) (J : List Got → World → Prop)
    (W : World) (hg : ∀ pre W W', J pre W → W.grownBy W' none → J pre W')
    (hY : ∀ (pre : List Got) (a' : Option Addr) (n' c' : Nat) (k : Int) (d : List Int) (n : Nat) (e : Int) (W0 W1 : World), J pre W0 → Below W0.heap.size W0 W1 → n' = d.length → NewB W1 W0.heap.size (.slice a' n' c') d → e = ((lenOf (pre.map (·.2)) + n : Nat) : Int) → 6 * pre.length ≤ b.length → (lenOf (pre.map (·.2)) + n) ≤ b.length →
      YieldAt Fence.wide (m - 1) Tryz.prog l #[.agg #[.int .i64 k, .slice a' n' c'], .int .i64 e] W1 fun e' W' => e' = .returned (.bool true) ∧ J (pre ++ [(.slice a' n' c', k, d, n)]) W')
    (hK : ∀ pre W', J pre W' → Below n₀ W W' ∧ W'.cell? ⟨Bn, 0, none⟩ = some (.slice a b.length cap))
    (hv : Octs W (.slice a b.length cap) b) (hlow : ∀ g, (Value.slice a b.length cap).ownBlock = some g → b ≠ [] → g < n₀) (h0 : J [] W) :
    CallsIn Fence.wide m Tryz.prog 172 #[.func (.yield l) #[] #[], .pointer (some ⟨Bn, 0, none⟩)] W fun e W' => (∃ v, e = .returned v) ∧ ∃ xs, xs.map (·.2) = scanOf b ∧ J xs W' := by
  refine callsIn_of_wp Tryz.func172 rfl trivial ?_ rfl
  simp only [Tryz.ntmps172, List.size_toArray, List.length_cons, List.length_nil, Nat.reduceAdd, Nat.reduceSub, Array.replicate_succ, Array.replicate_zero, List.push_toArray, List.append_toArray, List.nil_append, List.cons_append]
  gi_wp2
  gi_loopw [3] (fun p wr => ∃ (xs : List Got) (off f : Nat), p = .int .i64 (off : Int) ∧ Hid (ScanAt b (xs.map (·.2)) off f) ∧ Hid (J xs wr)) (fun p wr => b.length - (intOf p).toNat)
  case atStart => exact ⟨[], 0, b.length + 1, rfl, ScanAt.start b, h0⟩
  case round =>
    obtain ⟨xs, off, f, rfl, hs, hj⟩ := hrel
    obtain ⟨hb, hB2⟩ := hK _ _ hj.out
    replace hb : Hid (Below n₀ W wr) := hb
    obtain ⟨hs1, hs2, hs3, hs4⟩ := hs.out
    have hv2 : Octs wr (.slice a b.length cap) b := hv.moved (fun g o x hne hg hc => by rw [hb.out.cell (hlow g hg hne)]; exact hc)
    have HG : ∀ v', Octs wr v' (b.drop off) → Hid (∀ mm, CallsIn Fence.wide mm Tryz.prog 89 #[v'] wr fun e w' => ∃ a' n' c', e = .returned (.tuple #[.agg #[.int .i64 (fget (b.drop off)).1, .slice a' n' c'], .int .i64 (fget (b.drop off)).2.2.1, .int .i64 (fget (b.drop off)).2.2.2]) ∧ Hid (n' = (fget (b.drop off)).2.1.length) ∧ Hid (NewB w' wr.heap.size (.slice a' n' c') (fget (b.drop off)).2.1) ∧ Hid (Below wr.heap.size wr w')) := by
      intro v' hv' mm
      refine callsIn_wide.2 ((fget_any _ _ _ hv').mono ?_)
      rintro e w' ⟨vd, rfl, hn, hbw⟩
      obtain ⟨a', c', rfl, _, _⟩ := hn.1.len
      exact ⟨a', _, c', rfl, rfl, hn, hbw⟩
    obtain ⟨e0, he0⟩ : ∃ e0, e0 = (fget (b.drop off)).2.2.2 := ⟨_, rfl⟩
    obtain ⟨k0, hk0⟩ : ∃ k0, k0 = (fget (b.drop off)).1 := ⟨_, rfl⟩
    obtain ⟨d0, hd0⟩ : ∃ d0, d0 = (fget (b.drop off)).2.1 := ⟨_, rfl⟩
    obtain ⟨z0, hz0⟩ : ∃ z0, z0 = (fget (b.drop off)).2.2.1 := ⟨_, rfl⟩
    rw [← he0, ← hk0, ← hd0, ← hz0] at HG
    have HE : Hid (e0 = (fget (b.drop off)).2.2.2 ∧ k0 = (fget (b.drop off)).1 ∧ d0 = (fget (b.drop off)).2.1 ∧ z0 = (fget (b.drop off)).2.2.1) := ⟨he0, hk0, hd0, hz0⟩
    clear he0 hk0 hd0 hz0
    have fin : ∀ v', Octs wr v' (b.drop off) → True := fun _ _ => trivial
    have hcap : b.length ≤ cap := by
      obtain ⟨a2, c2, e2, h2, _⟩ := hv.len
      simp at e2
      omega
    have hG : ∃ G : Hid True, True := ⟨trivial, trivial⟩
    clear hG fin
    by_cases he : e0 = 0
    · subst he
      have hok : (fget (b.drop off)).2.2.2 = 0 := HE.out.1.symm
      obtain ⟨n, hzn, h6, hnl, _⟩ := fget_ok (b.drop off) (fun x hx => hv.1 x (List.mem_of_mem_drop hx)) hok
      rw [List.length_drop] at hnl
      obtain ⟨hnext, _, _⟩ := hs.out.goes hv.1 hok hzn
      have hz : z0 = (n : Int) := by rw [HE.out.2.2.2]; exact hzn
      subst hz
      rw [← HE.out.2.1, ← HE.out.2.2.1] at hnext
      have HN : Hid (ScanAt b (xs.map (·.2) ++ [(k0, d0, n)]) (off + n) (f - 1)) := hnext
      have hlen : 6 * xs.length ≤ b.length := by
        have h1 := (scanF_len (b.length + 1) b hv.1).2
        have h2 : (scanOf b).length = xs.length + (scanF f (b.drop off)).length := by rw [hs1]; simp
        unfold scanOf at h2
        omega
      have KEY : ∀ (w' : World) (a' : Option Addr) (n' c' : Nat), Hid (n' = d0.length) → Hid (NewB w' wr.heap.size (.slice a' n' c') d0) → Hid (Below wr.heap.size wr w') →
          YieldAt Fence.wide (m - 1) Tryz.prog l #[.agg #[.int .i64 k0, .slice a' n' c'], .int .i64 ((off : Int) + (n : Int))] (w'.alloc (.cells #[.int .i64 k0, .slice a' n' c'] 154)) fun e' W' => e' = .returned (.bool true) ∧ Hid (J (xs ++ [(.slice a' n' c', k0, d0, n)]) W') := by
        intro w' a' n' c' h1 h2 h3
        have u1 : Below wr.heap.size wr (w'.alloc (.cells #[.int .i64 k0, .slice a' n' c'] 154)) := up_al h3.out _
        refine (hY xs a' n' c' k0 d0 n ((off : Int) + (n : Int)) wr _ hj.out u1 h1.out (h2.out.up (up_alloc _ _)) (by rw [hs2]; omega) hlen (by rw [hs2]; omega)).mono ?_
        rintro e' W' ⟨rfl, q1⟩
        exact ⟨rfl, q1⟩
      cases a with
      | none =>
        exfalso
        rcases hv.2 with ⟨e, _⟩ | ⟨_, b', off', cap', e, _⟩
        · subst e; simp at hnl; omega
        · simp at e
      | some x =>
        obtain ⟨bb, o, sp⟩ := x
        obtain rfl : sp = none := by
          rcases hv.2 with ⟨e, _⟩ | ⟨_, b', off', cap', e, _⟩
          · subst e; simp at hnl; omega
          · simp at e; exact e.1.2.2
        have hcut := cut_off hv2 hs3 hcap
        have G := HG _ hcut
        have hoff : off < cap := by omega
        have hoff' : (off : Int) < (cap : Int) := by omega
        have hs3' : (off : Int) ≤ (b.length : Int) := by omega
        have hb64 : Hid (cap ≤ maxLen) := by
          unfold Hid
          rcases hv.2 with ⟨e, _⟩ | ⟨_, b', off', cap', e, _, hm, _⟩
          · subst e; simp at hnl; omega
          · simp at e; omega
        have hb65 : cap ≤ 9223372036854775807 := hb64.out
        have hon : (off : Int) + (n : Int) ≤ 9223372036854775807 := by omega
        clear HG hcut hv2 hY hK hs1 hs2 hs4 hzn hok hnext hlen
        gi_wp2
        refine ⟨trivial, fun h => (by cases h), ?_⟩
        refine (G.out _).mono ?_
        rintro e w' ⟨a', n', c', rfl, hn', hnb, hbw⟩
        obtain ⟨fn, tmps, asg, bod, hy, hR⟩ := KEY w' a' n' c' hn' hnb hbw
        gi_wp2
        refine ⟨fun h => (by cases h), hR.mono ?_⟩
        rintro e W3 ⟨rfl, hJ3⟩
        gi_wp2
        refine ⟨⟨xs ++ [(.slice a' n' c', k0, d0, n)], off + n, f - 1, by simp, ?_, hJ3⟩, ?_⟩
        · have := HN.out
          unfold Hid
          rw [List.map_append]
          exact this
        · simp [intOf]
          omega
    · have he' : (e0 == 0) = false := by simp [he]
      have HD : Hid (scanOf b = xs.map (·.2)) := (hs.out.ends (by rw [← HE.out.1]; exact he)).1
      clear hY hK hs1 hs2 hs4
      have key : ∀ (v' : Value) (w' : World), Below wr.heap.size wr w' → Hid (∀ o : Obj, J xs (w'.alloc o)) := by
        intro v' w' hbw o
        have h2 : Below wr.heap.size wr (w'.alloc o) := up_al hbw o
        exact hg _ _ _ hj.out (grown_up h2 none)
      cases a with
      | none =>
        obtain ⟨hb0, hc0⟩ : b = [] ∧ cap = 0 := by
          rcases hv.2 with ⟨e, a2, c2, e2, h2⟩ | ⟨_, b', off', cap', e, _⟩
          · simp at e2
            exact ⟨e, by rw [e2.2.2]; exact h2 e2.1.symm⟩
          · simp at e
        subst hb0 hc0
        have ho0 : off = 0 := by simpa using hs3
        subst ho0
        have G := HG (.slice none 0 0) (by simpa using hv2)
        simp only [List.length_nil] at hB2 hs3
        clear HG hv2
        gi_wp2
        refine ⟨trivial, fun h => (by cases h), ?_⟩
        refine (G.out _).mono ?_
        rintro e w' ⟨a', n', c', rfl, hn', hnb, hbw⟩
        gi_wp2
        refine bodyPost_ret (results_none rfl _ _ _) rfl ?_
        exact ⟨⟨_, rfl⟩, xs, HD.out.symm, (key (.slice none 0 0) _ hbw.out).out _⟩
      | some x =>
        obtain ⟨bb, o, sp⟩ := x
        by_cases hbn : b = []
        · subst hbn
          have ho0 : off = 0 := by simpa using hs3
          subst ho0
          simp only [List.length_nil] at hB2 hs3
          have nilO : ∀ (x : Addr) (c : Nat), Octs wr (.slice (some x) 0 c) (List.drop 0 []) := fun x c => ⟨by simp, .inl ⟨rfl, _, _, rfl, fun h => by cases h⟩⟩
          by_cases hc0 : cap = 0
          · subst hc0
            have G := HG (.slice (some ⟨bb, o, sp⟩) 0 0) (nilO _ _)
            clear HG hv2
            gi_wp2
            refine ⟨trivial, fun h => (by cases h), ?_⟩
            refine (G.out _).mono ?_
            rintro e w' ⟨a', n', c', rfl, hn', hnb, hbw⟩
            gi_wp2
            refine bodyPost_ret (results_none rfl _ _ _) rfl ?_
            exact ⟨⟨_, rfl⟩, xs, HD.out.symm, (key (.slice none 0 0) _ hbw.out).out _⟩
          · have G := HG (.slice (some ((⟨bb, o, sp⟩ : Addr).add 0)) 0 cap) (nilO _ _)
            have hc1 : 0 < cap := by omega
            clear HG hv2
            gi_wp2
            refine ⟨trivial, fun h => (by cases h), ?_⟩
            refine (G.out _).mono ?_
            rintro e w' ⟨a', n', c', rfl, hn', hnb, hbw⟩
            gi_wp2
            refine bodyPost_ret (results_none rfl _ _ _) rfl ?_
            exact ⟨⟨_, rfl⟩, xs, HD.out.symm, (key (.slice none 0 0) _ hbw.out).out _⟩
        · obtain rfl : sp = none := by
            rcases hv.2 with ⟨e, _⟩ | ⟨_, b', off', cap', e, _⟩
            · exact absurd e hbn
            · simp at e; exact e.1.2.2
          have hcut := cut_off hv2 hs3 hcap
          by_cases hoff : off < cap
          · have G := HG _ hcut
            have hoff' : (off : Int) < (cap : Int) := by omega
            have hs3' : (off : Int) ≤ (b.length : Int) := by omega
            clear HG hcut hv2
            gi_wp2
            refine ⟨trivial, fun h => (by cases h), ?_⟩
            refine (G.out _).mono ?_
            rintro e w' ⟨a', n', c', rfl, hn', hnb, hbw⟩
            gi_wp2
            refine bodyPost_ret (results_none rfl _ _ _) rfl ?_
            exact ⟨⟨_, rfl⟩, xs, HD.out.symm, (key (.slice none 0 0) _ hbw.out).out _⟩
          · have hoc : off = cap := by omega
            have hob : b.length = off := by omega
            have G := HG (.slice (some ⟨bb, o, none⟩) 0 0) (by rw [List.drop_eq_nil_iff.2 (by omega)]; exact ⟨by simp, .inl ⟨rfl, _, _, rfl, fun h => by cases h⟩⟩)
            clear HG hcut hv2
            rw [hob] at hB2 hs3
            subst hoc
            clear hob hoff
            gi_wp2
            refine ⟨trivial, fun h => (by cases h), ?_⟩
            refine (G.out _).mono ?_
            rintro e w' ⟨a', n', c', rfl, hn', hnb, hbw⟩
            gi_wp2
            refine bodyPost_ret (results_none rfl _ _ _) rfl ?_
            exact ⟨⟨_, rfl⟩, xs, HD.out.symm, (key (.slice none 0 0) _ hbw.out).out _⟩
end Go.Proofs.YtnchjlimkgbfpaaGreatDoor
