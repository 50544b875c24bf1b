/- The texts OPnt, AAt, LOf, in this order. -/
import Derived.Test.YtnchjlimkgbfpaaGreatDoorE32
import Derived.Test.YtnchjlimkgbfpaaGreatDoorE11
import Derived.Test.YtnchjlimkgbfpaaGreatDoorE02
import Derived.Test.YtnchjlimkgbfpaaGreatDoorVRefGet
import Derived.Test.YtnchjlimkgbfpaaGreatDoorVAgain
import Derived.Test.YtnchjlimkgbfpaaGreatDoorE19
import Derived.Test.YtnchjlimkgbfpaaGreatDoorE23
import Derived.Deep.RegionHeld3

namespace Go.Proofs.YtnchjlimkgbfpaaGreatDoor
open Go.RowKit
set_option linter.unusedVariables false
set_option linter.unusedSimpArgs false
set_option maxRecDepth 20000
def pntR (o : Option Int) : Value := match o with
  | none => .tuple #[.int .i64 0, .bool false]
  | some id => .tuple #[.int .i64 id, .bool true]
theorem pntOf_none {b : List Int} (h : ¬ ((fget b).2.2.2 = 0 ∧ (fget b).2.2.1 = (b.length : Int) ∧ (fget b).1 = 4 ∧ (getOf (fget b).2.1).2.2 = 0 ∧ (getOf (fget b).2.1).2.1 = ((fget b).2.1.length : Int) ∧ 1 ≤ (getOf (fget b).2.1).1 ∧ (getOf (fget b).2.1).1 ≤ 2147483647)) : pntR (curOf b) = .tuple #[.int .i64 0, .bool false] := by
  unfold curOf
  rw [if_neg h]
  rfl
set_option maxHeartbeats 4000000 in
theorem points_any (b : List Int) (v : Value) (w : World) (hv : Octs w v b) :
    Calls Tryz.prog 54 #[v] w fun e w' => e = .returned (pntR (curOf b)) ∧ Hid (Below w.heap.size w w') := by
  have HF := hid (rget_any b v w hv)
  obtain ⟨av, cv, ev, _⟩ := hv.slice
  subst ev
  have HBl : Hid (b.length = b.length) := rfl
  have HNo := hid (@pntOf_none b)
  have HYe : Hid (curOf b = if (fget b).2.2.2 = 0 ∧ (fget b).2.2.1 = (b.length : Int) ∧ (fget b).1 = 4 ∧ (getOf (fget b).2.1).2.2 = 0 ∧ (getOf (fget b).2.1).2.1 = ((fget b).2.1.length : Int) ∧ 1 ≤ (getOf (fget b).2.1).1 ∧ (getOf (fget b).2.1).1 ≤ 2147483647 then some (getOf (fget b).2.1).1 else none) := rfl
  obtain ⟨k, hk⟩ : ∃ k, k = (fget b).1 := ⟨_, rfl⟩
  obtain ⟨d, hd⟩ : ∃ d, d = (fget b).2.1 := ⟨_, rfl⟩
  obtain ⟨z, hz⟩ : ∃ z, z = (fget b).2.2.1 := ⟨_, rfl⟩
  obtain ⟨y, hy⟩ : ∃ y, y = (fget b).2.2.2 := ⟨_, rfl⟩
  rw [← hk, ← hd, ← hz, ← hy] at HF HNo HYe
  clear hk hd hz hy hv HBl
  go_enter Tryz.func54, Tryz.ntmps54
  go_wp2_with fail
  refine HF.out.mono ?_
  rintro e w1 ⟨vd, rfl, hN, hb⟩
  have U1 : Hid (Below w.heap.size w w1) := hb
  obtain ⟨ad, cd, ed, _⟩ := hN.1.slice
  subst ed
  have O1 := hid hN.1
  have HN0 := hid (getOf_range hN.1.1)
  have U2 : Hid (Below w.heap.size w (w1.alloc (.cells #[.int .i64 k, .slice ad d.length cd] 104))) := up_al U1.out _
  clear hN hb HF
  by_cases c1 : y = 0
  case neg =>
    have c1b : (y != 0) = true := by simpa using c1
    have c1c : (y = 0) = False := by simpa using c1
    have HR := hid (HNo.out (fun q => c1 q.1))
    clear HNo HYe c1
    go_wp2_with fail
    go_ret2
    rw [HR.out]
    exact ⟨rfl, U2⟩
  subst c1
  by_cases c2 : z = (b.length : Int)
  case neg =>
    have c2b : (z != (b.length : Int)) = true := by simpa using c2
    have c2d : (z = (b.length : Int)) = False := by simpa using c2
    have HR := hid (HNo.out (fun q => c2 q.2.1))
    clear HNo HYe c2
    go_wp2_with fail
    go_ret2
    rw [HR.out]
    exact ⟨rfl, U2⟩
  have c2b : (z != (b.length : Int)) = false := by simpa using c2
  have c2d : (z = (b.length : Int)) = True := by simpa using c2
  by_cases c3 : k = 4
  case neg =>
    have c3b : (k != 4) = true := by simpa using c3
    have c3c : (k = 4) = False := by simpa using c3
    have HR := hid (HNo.out (fun q => c3 q.2.2.1))
    clear HNo HYe c3 c2
    go_wp2_with fail
    go_ret2
    rw [HR.out]
    exact ⟨rfl, U2⟩
  subst c3
  obtain ⟨n, hn⟩ : ∃ n, n = (getOf d).1 := ⟨_, rfl⟩
  obtain ⟨j, hj⟩ : ∃ j, j = (getOf d).2.1 := ⟨_, rfl⟩
  obtain ⟨f, hf⟩ : ∃ f, f = (getOf d).2.2 := ⟨_, rfl⟩
  have HG : Hid (Calls Tryz.prog 98 #[.slice ad d.length cd] (w1.alloc (.cells #[.int .i64 4, .slice ad d.length cd] 104)) fun e w' => e = .returned (.tuple #[.int .u64 n, .int .i64 j, .int .i64 f]) ∧ Below (w1.alloc (.cells #[.int .i64 4, .slice ad d.length cd] 104)).heap.size (w1.alloc (.cells #[.int .i64 4, .slice ad d.length cd] 104)) w') := by
    refine (refGet_any d _ _ (O1.out.up (up_alloc _ _))).mono ?_
    rintro e w' ⟨rfl, m, rfl⟩
    rw [hn, hj, hf]
    exact ⟨rfl, up_drewN _ _⟩
  rw [← hn] at HN0
  rw [← hn, ← hj, ← hf] at HNo HYe
  clear hn hj hf
  have HYe2 : Hid (f = 0 → j = (d.length : Int) → 1 ≤ n → n ≤ 2147483647 → pntR (curOf b) = .tuple #[.int .i64 n, .bool true]) := by
    intro q1 q2 q3 q4
    rw [HYe.out, if_pos ⟨rfl, c2, rfl, q1, q2, q3, q4⟩]
    rfl
  have HNo2 : Hid (¬ (f = 0 ∧ j = (d.length : Int) ∧ 1 ≤ n ∧ n ≤ 2147483647) → pntR (curOf b) = .tuple #[.int .i64 0, .bool false]) := fun q => HNo.out (fun h => q ⟨h.2.2.2.1, h.2.2.2.2.1, h.2.2.2.2.2.1, h.2.2.2.2.2.2⟩)
  clear HYe HNo
  clear c2
  go_wp2_with fail
  refine HG.out.mono ?_
  rintro e w2 ⟨rfl, hb2⟩
  have U3 : Hid (Below w.heap.size w w2) := up_trans U2.out hb2
  have q0 := blk_cell (blk_up (blk_new w1 (.cells #[.int .i64 4, .slice ad d.length cd] 104)) hb2) 0 _ rfl
  have q1 := blk_cell (blk_up (blk_new w1 (.cells #[.int .i64 4, .slice ad d.length cd] 104)) hb2) 1 _ rfl
  clear hb2 HG
  by_cases c4 : f = 0
  case neg =>
    have c4b : (f != 0) = true := by simpa using c4
    have c4c : (f = 0) = False := by simpa using c4
    have HR := hid (HNo2.out (fun q => c4 q.1))
    clear HNo2 HYe2 c4
    go_wp2_with fail
    go_ret2
    rw [HR.out]
    exact ⟨rfl, U3⟩
  subst c4
  by_cases c5 : j = (d.length : Int)
  case neg =>
    have c5b : (j != (d.length : Int)) = true := by simpa using c5
    have c5d : (j = (d.length : Int)) = False := by simpa using c5
    have HR := hid (HNo2.out (fun q => c5 q.2.1))
    clear HNo2 HYe2 c5
    go_wp2_with fail
    go_ret2
    rw [HR.out]
    exact ⟨rfl, U3⟩
  have c5b : (j != (d.length : Int)) = false := by simpa using c5
  have c5d : (j = (d.length : Int)) = True := by simpa using c5
  have HYe3 : Hid (1 ≤ n → n ≤ 2147483647 → pntR (curOf b) = .tuple #[.int .i64 n, .bool true]) := fun h1 h2 => HYe2.out rfl c5 h1 h2
  have HNo3 : Hid (¬ (1 ≤ n ∧ n ≤ 2147483647) → pntR (curOf b) = .tuple #[.int .i64 0, .bool false]) := fun q => HNo2.out (fun h => q ⟨h.2.2.1, h.2.2.2⟩)
  clear HYe2 HNo2 c5
  by_cases c6 : n ≤ 2147483647
  case neg =>
    have c6b : 2147483647 < n := by omega
    have HR := hid (HNo3.out (fun q => c6 q.2))
    clear HNo3 HYe3 c6
    go_wp2_with fail
    go_ret2
    rw [HR.out]
    exact ⟨rfl, U3⟩
  have c6b : ¬ 2147483647 < n := by omega
  have hwr : IntKind.i64.wrap n = n := by
    have := HN0.out
    rw [IntKind.wrap_i64]
    omega
  by_cases c7 : 1 ≤ n
  · have HR := hid (HYe3.out c7 c6)
    have c7b : ¬ n < 1 := by omega
    clear HNo3 HYe3 c6 c7
    go_wp2_with fail
    go_ret2
    rw [HR.out]
    exact ⟨rfl, U3⟩
  · have HR := hid (HNo3.out (fun q => c7 q.1))
    have c7b : n < 1 := by omega
    clear HNo3 HYe3 c6 c7
    go_wp2_with fail
    go_ret2
    rw [HR.out]
    exact ⟨rfl, U3⟩
end Go.Proofs.YtnchjlimkgbfpaaGreatDoor

namespace Go.Proofs.YtnchjlimkgbfpaaGreatDoor
open Go.RowKit
set_option linter.unusedVariables false
set_option maxRecDepth 20000
set_option linter.unusedSimpArgs false
end Go.Proofs.YtnchjlimkgbfpaaGreatDoor

namespace Go.Proofs.YtnchjlimkgbfpaaGreatDoor
open Go.RowKit
set_option linter.unusedVariables false
set_option maxRecDepth 20000
set_option linter.unusedSimpArgs false
theorem results_ver1 {fn : Func} {t : TypeId} {p : Nat} (h : fn.results = #[.cell p t]) (hl : t = 39 ∨ t = 28) (tmps : Array Value) (w : World) {N : Nat} {a b c : Value} (ht : tmps.getD p undef = .pointer (some ⟨N, 0, none⟩))
    (hc : w.heap[N]? = some (.cells #[a, b, c] t)) : (results fn tmps).run Tryz.prog w = .ok (.agg #[a, b, c]) w := by
  have c0 := blk_cell hc 0 a rfl
  have c1 := blk_cell hc 1 b rfl
  have c2 := blk_cell hc 2 c rfl
  have ht' : tmps[p]?.getD undef = .pointer (some ⟨N, 0, none⟩) := by simpa using ht
  rcases hl with rfl | rfl
  · simp only [results, h]
    simp [ht', go_sem, c0, c1, c2]
  · simp only [results, h]
    simp [ht', go_sem, c0, c1, c2]
theorem results_edt1 {fn : Func} {t : TypeId} {p : Nat} (h : fn.results = #[.cell p t]) (hl : t = 42 ∨ t = 31) (tmps : Array Value) (w : World) {N : Nat} {a b c d : Value} (ht : tmps.getD p undef = .pointer (some ⟨N, 0, none⟩))
    (hc : w.heap[N]? = some (.cells #[a, b, c, d] t)) : (results fn tmps).run Tryz.prog w = .ok (.agg #[a, b, c, d]) w := by
  have c0 := blk_cell hc 0 a rfl
  have c1 := blk_cell hc 1 b rfl
  have c2 := blk_cell hc 2 c rfl
  have c3 := blk_cell hc 3 d rfl
  have ht' : tmps[p]?.getD undef = .pointer (some ⟨N, 0, none⟩) := by simpa using ht
  rcases hl with rfl | rfl
  · simp only [results, h]
    simp [ht', go_sem, c0, c1, c2, c3]
  · simp only [results, h]
    simp [ht', go_sem, c0, c1, c2, c3]
def VerO (w : World) (base : Nat) (a : Option Addr) (n c : Nat) (ts : List Me) : Prop := OwnR w base 148 5 (.slice a n c) (ts.map meRow)
theorem VerO.up {w w' : World} {base : Nat} {a : Option Addr} {n c : Nat} {ts : List Me} (h : VerO w base a n c ts) (hb : Below w.heap.size w w') : VerO w' base a n c ts := OwnR.up h hb
theorem VerO.read {w : World} {base : Nat} {a : Option Addr} {n c : Nat} {ts : List Me} (h : VerO w base a n c ts) : MetsR w (.slice a n c) ts := Rws.own h
set_option maxHeartbeats 4000000 in
set_option maxRecDepth 100000 in
theorem of_anyE (ts : List Me) (seq next : Int) (va : Option Addr) (vn vc : Nat) (w : World) (hv : MetsR w (.slice va vn vc) ts) (hl : ts.length ≤ 4000000000000) :
    Calls Tryz.prog 8 #[.agg #[.slice va vn vc, .int .i64 seq, .int .i64 next]] w fun e w' => ∃ a n c, e = .returned (.agg #[.slice a n c, .int .i64 seq, .int .i64 next]) ∧ Hid (VerO w' w.heap.size a n c ts) ∧ Hid (Below w.heap.size w w') := by
  have HV : Hid (MetsR w (.slice va vn vc) ts) := hv
  clear hv
  obtain ⟨w0, hw0⟩ : ∃ w0, w0 = (w.alloc (.cells #[.slice va vn vc, .int .i64 seq, .int .i64 next] 28)).alloc (.cells #[.slice none 0 0, .int .i64 0, .int .i64 0] 39) := ⟨_, rfl⟩
  have HW0 : Hid ((w.alloc (.cells #[.slice va vn vc, .int .i64 seq, .int .i64 next] 28)).alloc (.cells #[.slice none 0 0, .int .i64 0, .int .i64 0] 39) = w0) := hw0.symm
  have U0 : Hid (Below w.heap.size w w0) := by rw [hw0]; exact up_al (up_alloc _ _) _
  have B0 : Hid (w0.heap[w.heap.size]? = some (.cells #[.slice va vn vc, .int .i64 seq, .int .i64 next] 28)) := by rw [hw0]; exact blk_up (blk_new _ _) (up_alloc _ _)
  have B2 : Hid (w0.heap[w.heap.size + 1]? = some (.cells #[.slice none 0 0, .int .i64 0, .int .i64 0] 39)) := by
    rw [hw0]
    have := blk_new (w.alloc (.cells #[.slice va vn vc, .int .i64 seq, .int .i64 next] 28)) (.cells #[.slice none 0 0, .int .i64 0, .int .i64 0] 39)
    rw [show (w.alloc (.cells #[.slice va vn vc, .int .i64 seq, .int .i64 next] 28)).heap.size = w.heap.size + 1 by simp] at this
    exact this
  clear hw0
  have x0 := blk_cell B0.out 0 _ rfl
  have x1 := blk_cell B0.out 1 _ rfl
  have x2 := blk_cell B0.out 2 _ rfl
  go_enter Tryz.func8, Tryz.ntmps8
  go_upto_region 1 with fail
  rw [HW0.out]
  clear HW0
  generalize hN1 : w.heap.size + 1 = N1 at *
  have hn1 : ¬ N1 = w.heap.size := by omega
  have hn2 : ¬ w.heap.size = N1 := by omega
  have HN1 : Hid (w.heap.size ≤ N1) := by unfold Hid; omega
  clear hN1
  have HC : Hid (Calls Tryz.prog 31 #[.slice va vn vc] w0.drew fun e w' => ∃ a n c, e = .returned (.slice a n c) ∧ Hid (VerO w' w.heap.size a n c ts) ∧ w'.cell? ⟨w.heap.size, 0, none⟩ = some (.slice va vn vc) ∧ w'.cell? ⟨w.heap.size, 1, none⟩ = some (.int .i64 seq) ∧ w'.cell? ⟨w.heap.size, 2, none⟩ = some (.int .i64 next) ∧ Hid (w'.heap[N1]? = some (.cells #[.slice none 0 0, .int .i64 0, .int .i64 0] 39)) ∧ Hid (Below w.heap.size w w')) := by
    have u : Below w0.heap.size w0 w0.drew := up_dr (Below.refl _ _)
    refine (ofMetas_own ts _ w0.drew ((HV.out.up U0.out).up u) hl).mono ?_
    rintro e w' ⟨a, c, rfl, hO, hb⟩
    have u2 := up_trans u hb.out
    have b0 := blk_up B0.out u2
    exact ⟨a, _, c, rfl, hO.out.mono (by have := (up_trans U0.out u).size; exact this), blk_cell b0 0 _ rfl, blk_cell b0 1 _ rfl, blk_cell b0 2 _ rfl, blk_up B2.out u2, up_trans U0.out u2⟩
  go_region_held3 (fun w' => w'.cell? ⟨w.heap.size, 0, none⟩ = some (.slice va vn vc) ∧ w'.cell? ⟨w.heap.size, 1, none⟩ = some (.int .i64 seq) ∧ w'.cell? ⟨w.heap.size, 2, none⟩ = some (.int .i64 next)) (first | with_reducible exact ⟨x0, x1, x2⟩ | with_reducible exact ⟨z0, z1, z2⟩ | (simp [go_sem, x0, x1, x2]; done) | (simp [go_sem, z0, z1, z2, hn1, hn2]; done)) (first
    | (go_at_call 31; with_reducible refine HC.out.mono ?_; rintro e w3 ⟨a3, n3, c3, rfl, O3, z0, z1, z2, b3, u3⟩; have r0 := blk_cell b3.out 0 _ rfl; have r1 := blk_cell b3.out 1 _ rfl; have r2 := blk_cell b3.out 2 _ rfl; have f0 := blk_frozen b3.out 0; have f1 := blk_frozen b3.out 1; have f2 := blk_frozen b3.out 2))
  all_goals
    go_wp2_with fail
    refine bodyPost_ret (results_ver1 rfl (.inl rfl) _ _ rfl (set3_blk b3.out _ _ _)) rfl ?_
    refine ⟨a3, n3, c3, rfl, ?_, u3.out.trans (below_grown (set3_grown w3 N1 _ _ _) u3.out.size (fun k hk => by injection hk with hk; have := HN1.out; omega))⟩
    exact OwnR.far O3.out (set3_grown w3 N1 _ _ _) (own_blk_ne O3.out.2 b3.out (by decide))
end Go.Proofs.YtnchjlimkgbfpaaGreatDoor
