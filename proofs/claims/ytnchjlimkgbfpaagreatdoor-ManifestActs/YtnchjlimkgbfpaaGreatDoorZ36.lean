/- The texts OSam, OInv, LOf, in this order. -/
import Derived.Test.YtnchjlimkgbfpaaGreatDoorONtx
import Derived.Test.YtnchjlimkgbfpaaGreatDoorZ14
import Derived.Test.YtnchjlimkgbfpaaGreatDoorZ02
import Derived.Deep.RegionHeld3
import Derived.Test.YtnchjlimkgbfpaaGreatDoorZ34

namespace Go.Proofs.YtnchjlimkgbfpaaGreatDoor
open Go.RowKit
set_option linter.unusedVariables false
set_option linter.unusedSimpArgs false
set_option maxRecDepth 20000
theorem ActR.at {w : World} {v : Value} {l : List Ac} (h : ActR w v l) (k : Nat) (hk : k < l.length) :
    ∃ b off cap x vd, v = .slice (some ⟨b, off, none⟩) l.length cap ∧ l[k]? = some x ∧ w.cell? ⟨b, off + k * 4, none⟩ = some (.int .i64 x.what) ∧ w.cell? ⟨b, off + k * 4 + 1, none⟩ = some (.string (strOfNums x.name)) ∧ w.cell? ⟨b, off + k * 4 + 2, none⟩ = some (.string (strOfNums x.dest)) ∧ w.cell? ⟨b, off + k * 4 + 3, none⟩ = some vd ∧ Octs w vd x.data := by
  obtain ⟨m, rfl, h2, h3⟩ := h
  rw [List.length_map] at hk
  obtain ⟨b, off, cap, e, _, _, hc⟩ := h2.at k (by simpa using hk)
  have hg : (m.map arow).getD k [] = arow m[k] := by simp [List.getD, hk]
  rw [hg] at hc
  rw [List.length_map] at e ⊢
  exact ⟨b, off, cap, (m[k]).2, (m[k]).1, e, by simp [hk], hc 0 _ rfl, hc 1 _ rfl, hc 2 _ rfl, hc 3 _ rfl, h3 _ (List.getElem_mem hk)⟩
theorem ActR.len {w : World} {v : Value} {l : List Ac} (h : ActR w v l) : ∃ a c, v = .slice a l.length c ∧ l.length ≤ maxLen := by
  obtain ⟨m, rfl, h2, _⟩ := h
  obtain ⟨a, c, e, h1, h3⟩ := h2.len
  rw [List.length_map] at e h1 ⊢
  exact ⟨a, c, by rw [e], by omega⟩
set_option maxHeartbeats 2000000 in
set_option maxRecDepth 100000 in
theorem sameActs_self (l : List Ac) (v u : Value) (w : World) (hv : ActR w v l) (hu : ActR w u l) :
    Calls Tryz.prog 14 #[v, u] w fun e w' => e = .returned (.bool true) ∧ ∃ d, w' = w.drewN d := by
  have HV : Hid (ActR w v l) := hv
  have HU : Hid (ActR w u l) := hu
  obtain ⟨a1, c1, rfl, m1⟩ := hv.len
  obtain ⟨a2, c2, rfl, m2⟩ := hu.len
  have hl63 : l.length ≤ 9223372036854775807 := by unfold maxLen at m1; omega
  clear hv hu m1 m2
  go_enter Tryz.func14, Tryz.ntmps14
  go_wp2_with fail
  go_loopw [5] (fun i wr => ∃ (k d : Nat), k ≤ l.length ∧ i = .int .i64 k ∧ wr = w.drewN d) (fun i _ => l.length - (intOf i).toNat)
  case atStart => exact ⟨0, 0, Nat.zero_le _, rfl, rfl⟩
  case round =>
    obtain ⟨k, d, hk, rfl, hwr⟩ := hrel
    have Hwr := hid hwr
    have uw : Hid (Below w.heap.size w wr) := by rw [hwr]; exact up_drewN _ _
    clear hwr
    by_cases hlt : k < l.length
    · have hlt' : (k : Int) < (l.length : Int) := by omega
      obtain ⟨b, off, cap, x, vd, e, hx, x0, x1, x2, x3, ho⟩ := (HV.out.up uw.out).at k hlt
      obtain ⟨b', off', cap', y, vd', e', hy, y0, y1, y2, y3, ho'⟩ := (HU.out.up uw.out).at k hlt
      simp at e e'
      obtain ⟨rfl, rfl⟩ := e
      obtain ⟨rfl, rfl⟩ := e'
      obtain rfl : x = y := by rw [hx] at hy; injection hy
      have HS : Hid (∀ n, Calls Tryz.prog 46 #[vd, vd'] (wr.drewN n) fun e w' => e = .returned (.bool true) ∧ w' = wr.drewN n) := fun n => same_self x.data vd vd' (wr.drewN n) (ho.up (up_drewN _ _)) (ho'.up (up_drewN _ _))
      clear hx hy ho ho'
      go_wp2_with fail
      go_quiet ((go_at_call 46; go_loud (exact Calls.quiet_of_same (HS.out _))))
      go_wp2_with fail
      exact ⟨⟨k + 1, d + nq, by omega, by go_num, by rw [Hwr.out]; first | rfl | (rw [World.drewN_drewN]; done)⟩, by simp [intOf]; omega⟩
    · have hlt' : ¬ (k : Int) < (l.length : Int) := by omega
      go_wp2_with fail
      go_ret
      exact ⟨rfl, d, Hwr.out⟩
end Go.Proofs.YtnchjlimkgbfpaaGreatDoor

namespace Go.Proofs.YtnchjlimkgbfpaaGreatDoor
open Go.RowKit
set_option linter.unusedVariables false
set_option linter.unusedSimpArgs false
def notYet : List Bool → Nat
  | [] => 0
  | b :: r => (if b then 0 else 1) + notYet r
theorem notYet_set : ∀ (l : List Bool) (i : Nat), l[i]? = some false → notYet (l.set i true) + 1 = notYet l
  | [], i, h => by simp at h
  | b :: r, 0, h => by simp at h; subst h; simp only [List.set_cons_zero, notYet]; simp; omega
  | b :: r, i + 1, h => by
    have := notYet_set r i (by simpa using h)
    simp only [List.set_cons_succ, notYet]
    omega
theorem notYet_zero : ∀ (l : List Bool) (i : Nat), l[i]? = some false → 0 < notYet l
  | [], i, h => by simp at h
  | b :: r, 0, h => by simp at h; subst h; simp [notYet]; omega
  | b :: r, i + 1, h => by
    have := notYet_zero r i (by simpa using h)
    simp only [notYet]
    omega
theorem getD_false {l : Array Bool} {i : Nat} (h : l.getD i true = false) : l.toList[i]? = some false := by
  rcases Nat.lt_or_ge i l.size with q | q
  · simp [Array.getD, q] at h
    simp [q, h]
  · simp [Array.getD, show ¬ i < l.size by omega] at h
theorem wpAny_inv {P : Program} {ops : Array Oper} {Q : Exit → Act → World → Prop} {md : Region.Mode} (J : Array Bool → Act → World → Prop)
    (hstep : ∀ (l : Array Bool) (a : Act) (w : World) (i : Nat), l.size = ops.size → J l a w → i ∈ Region.ready md ops l → wpOp P ops Q i (fun a' w' => J (l.setIfInBounds i true) a' w') a w)
    (hdone : ∀ (l : Array Bool) (a : Act) (w : World), l.size = ops.size → J l a w → Region.ready md ops l = [] → Q .normal a w) :
    ∀ (fuel : Nat) (l : Array Bool) (a : Act) (w : World), l.size = ops.size → notYet l.toList ≤ fuel → J l a w → wpAny P md ops Q fuel l a w
  | 0, l, a, w, hs, hn, hJ => by
    have hr : Region.ready md ops l = [] := by
      cases hq : Region.ready md ops l with
      | nil => rfl
      | cons i r =>
        have : i ∈ Region.ready md ops l := by rw [hq]; exact List.mem_cons_self
        have := notYet_zero _ i (getD_false (mem_ready.1 this).1)
        omega
    exact ⟨hr, hdone l a w hs hJ hr⟩
  | fuel + 1, l, a, w, hs, hn, hJ => by
    refine ⟨fun hr => hdone l a w hs hJ hr, fun i hi => ?_⟩
    refine wpOp_mono (fun a' w' h => ?_) (hstep l a w i hs hJ hi)
    refine wpAny_inv J hstep hdone fuel _ a' w' (by simpa using hs) ?_ h
    have := notYet_set l.toList i (getD_false (mem_ready.1 hi).1)
    rw [Array.toList_setIfInBounds]
    omega
theorem got_self {l : Array Bool} {i : Nat} (h : i < l.size) : (l.setIfInBounds i true).getD i false = true := by simp [Array.getD, h]
theorem got_ne {l : Array Bool} {i j : Nat} (h : i ≠ j) : (l.setIfInBounds i true).getD j false = l.getD j false := by
  simp only [Array.getD_eq_getD_getElem?, Array.getElem?_setIfInBounds_ne h]
theorem got_not {l : Array Bool} {i : Nat} (h : l.getD i true = false) : l.getD i false = false ∧ i < l.size := by
  rcases Nat.lt_or_ge i l.size with q | q
  · simp [Array.getD, q] at h ⊢
    first | exact h | exact ⟨h, q⟩
  · simp [Array.getD, show ¬ i < l.size by omega] at h
end Go.Proofs.YtnchjlimkgbfpaaGreatDoor

namespace Go.Proofs.YtnchjlimkgbfpaaGreatDoor
open Go.RowKit
set_option linter.unusedVariables false
set_option maxRecDepth 20000
set_option linter.unusedSimpArgs false
theorem results_ver1 {fn : Func} {t : TypeId} {p : Nat} (h : fn.results = #[.cell p t]) (hl : t = 39 ∨ t = 28) (tmps : Array Value) (w : World) {N : Nat} {a b c : Value} (ht : tmps.getD p undef = .pointer (some ⟨N, 0, none⟩))
    (hc : w.heap[N]? = some (.cells #[a, b, c] t)) : (results fn tmps).run Tryz.prog w = .ok (.agg #[a, b, c]) w := by
  have c0 := blk_cell hc 0 a rfl
  have c1 := blk_cell hc 1 b rfl
  have c2 := blk_cell hc 2 c rfl
  have ht' : tmps[p]?.getD undef = .pointer (some ⟨N, 0, none⟩) := by simpa using ht
  rcases hl with rfl | rfl
  · simp only [results, h]
    simp [ht', go_sem, c0, c1, c2]
  · simp only [results, h]
    simp [ht', go_sem, c0, c1, c2]
theorem results_edt1 {fn : Func} {t : TypeId} {p : Nat} (h : fn.results = #[.cell p t]) (hl : t = 42 ∨ t = 31) (tmps : Array Value) (w : World) {N : Nat} {a b c d : Value} (ht : tmps.getD p undef = .pointer (some ⟨N, 0, none⟩))
    (hc : w.heap[N]? = some (.cells #[a, b, c, d] t)) : (results fn tmps).run Tryz.prog w = .ok (.agg #[a, b, c, d]) w := by
  have c0 := blk_cell hc 0 a rfl
  have c1 := blk_cell hc 1 b rfl
  have c2 := blk_cell hc 2 c rfl
  have c3 := blk_cell hc 3 d rfl
  have ht' : tmps[p]?.getD undef = .pointer (some ⟨N, 0, none⟩) := by simpa using ht
  rcases hl with rfl | rfl
  · simp only [results, h]
    simp [ht', go_sem, c0, c1, c2, c3]
  · simp only [results, h]
    simp [ht', go_sem, c0, c1, c2, c3]
def VerO (w : World) (base : Nat) (a : Option Addr) (n c : Nat) (ts : List Me) : Prop := OwnR w base 148 5 (.slice a n c) (ts.map meRow)
theorem VerO.up {w w' : World} {base : Nat} {a : Option Addr} {n c : Nat} {ts : List Me} (h : VerO w base a n c ts) (hb : Below w.heap.size w w') : VerO w' base a n c ts := OwnR.up h hb
theorem VerO.read {w : World} {base : Nat} {a : Option Addr} {n c : Nat} {ts : List Me} (h : VerO w base a n c ts) : MetsR w (.slice a n c) ts := Rws.own h
set_option maxHeartbeats 4000000 in
set_option maxRecDepth 100000 in
theorem of_anyE (ts : List Me) (seq next : Int) (va : Option Addr) (vn vc : Nat) (w : World) (hv : MetsR w (.slice va vn vc) ts) (hl : ts.length ≤ 4000000000000) :
    Calls Tryz.prog 8 #[.agg #[.slice va vn vc, .int .i64 seq, .int .i64 next]] w fun e w' => ∃ a n c, e = .returned (.agg #[.slice a n c, .int .i64 seq, .int .i64 next]) ∧ Hid (VerO w' w.heap.size a n c ts) ∧ Hid (Below w.heap.size w w') := by
  have HV : Hid (MetsR w (.slice va vn vc) ts) := hv
  clear hv
  obtain ⟨w0, hw0⟩ : ∃ w0, w0 = (w.alloc (.cells #[.slice va vn vc, .int .i64 seq, .int .i64 next] 28)).alloc (.cells #[.slice none 0 0, .int .i64 0, .int .i64 0] 39) := ⟨_, rfl⟩
  have HW0 : Hid ((w.alloc (.cells #[.slice va vn vc, .int .i64 seq, .int .i64 next] 28)).alloc (.cells #[.slice none 0 0, .int .i64 0, .int .i64 0] 39) = w0) := hw0.symm
  have U0 : Hid (Below w.heap.size w w0) := by rw [hw0]; exact up_al (up_alloc _ _) _
  have B0 : Hid (w0.heap[w.heap.size]? = some (.cells #[.slice va vn vc, .int .i64 seq, .int .i64 next] 28)) := by rw [hw0]; exact blk_up (blk_new _ _) (up_alloc _ _)
  have B2 : Hid (w0.heap[w.heap.size + 1]? = some (.cells #[.slice none 0 0, .int .i64 0, .int .i64 0] 39)) := by
    rw [hw0]
    have := blk_new (w.alloc (.cells #[.slice va vn vc, .int .i64 seq, .int .i64 next] 28)) (.cells #[.slice none 0 0, .int .i64 0, .int .i64 0] 39)
    rw [show (w.alloc (.cells #[.slice va vn vc, .int .i64 seq, .int .i64 next] 28)).heap.size = w.heap.size + 1 by simp] at this
    exact this
  clear hw0
  have x0 := blk_cell B0.out 0 _ rfl
  have x1 := blk_cell B0.out 1 _ rfl
  have x2 := blk_cell B0.out 2 _ rfl
  go_enter Tryz.func8, Tryz.ntmps8
  go_upto_region 1 with fail
  rw [HW0.out]
  clear HW0
  generalize hN1 : w.heap.size + 1 = N1 at *
  have hn1 : ¬ N1 = w.heap.size := by omega
  have hn2 : ¬ w.heap.size = N1 := by omega
  have HN1 : Hid (w.heap.size ≤ N1) := by unfold Hid; omega
  clear hN1
  have HC : Hid (Calls Tryz.prog 31 #[.slice va vn vc] w0.drew fun e w' => ∃ a n c, e = .returned (.slice a n c) ∧ Hid (VerO w' w.heap.size a n c ts) ∧ w'.cell? ⟨w.heap.size, 0, none⟩ = some (.slice va vn vc) ∧ w'.cell? ⟨w.heap.size, 1, none⟩ = some (.int .i64 seq) ∧ w'.cell? ⟨w.heap.size, 2, none⟩ = some (.int .i64 next) ∧ Hid (w'.heap[N1]? = some (.cells #[.slice none 0 0, .int .i64 0, .int .i64 0] 39)) ∧ Hid (Below w.heap.size w w')) := by
    have u : Below w0.heap.size w0 w0.drew := up_dr (Below.refl _ _)
    refine (ofMetas_own ts _ w0.drew ((HV.out.up U0.out).up u) hl).mono ?_
    rintro e w' ⟨a, c, rfl, hO, hb⟩
    have u2 := up_trans u hb.out
    have b0 := blk_up B0.out u2
    exact ⟨a, _, c, rfl, hO.out.mono (by have := (up_trans U0.out u).size; exact this), blk_cell b0 0 _ rfl, blk_cell b0 1 _ rfl, blk_cell b0 2 _ rfl, blk_up B2.out u2, up_trans U0.out u2⟩
  go_region_held3 (fun w' => w'.cell? ⟨w.heap.size, 0, none⟩ = some (.slice va vn vc) ∧ w'.cell? ⟨w.heap.size, 1, none⟩ = some (.int .i64 seq) ∧ w'.cell? ⟨w.heap.size, 2, none⟩ = some (.int .i64 next)) (first | with_reducible exact ⟨x0, x1, x2⟩ | with_reducible exact ⟨z0, z1, z2⟩ | (simp [go_sem, x0, x1, x2]; done) | (simp [go_sem, z0, z1, z2, hn1, hn2]; done)) (first
    | (go_at_call 31; with_reducible refine HC.out.mono ?_; rintro e w3 ⟨a3, n3, c3, rfl, O3, z0, z1, z2, b3, u3⟩; have r0 := blk_cell b3.out 0 _ rfl; have r1 := blk_cell b3.out 1 _ rfl; have r2 := blk_cell b3.out 2 _ rfl; have f0 := blk_frozen b3.out 0; have f1 := blk_frozen b3.out 1; have f2 := blk_frozen b3.out 2))
  all_goals
    go_wp2_with fail
    refine bodyPost_ret (results_ver1 rfl (.inl rfl) _ _ rfl (set3_blk b3.out _ _ _)) rfl ?_
    refine ⟨a3, n3, c3, rfl, ?_, u3.out.trans (below_grown (set3_grown w3 N1 _ _ _) u3.out.size (fun k hk => by injection hk with hk; have := HN1.out; omega))⟩
    exact OwnR.far O3.out (set3_grown w3 N1 _ _ _) (own_blk_ne O3.out.2 b3.out (by decide))
set_option maxHeartbeats 4000000 in
set_option maxRecDepth 100000 in
theorem ofEdit_any (drop : List Int) (add : List Me) (seq2 next2 : Int) (da aa : Option Addr) (dn dc an ac : Nat) (w : World) (hd : IntsR w (.slice da dn dc) drop) (ha : MetsR w (.slice aa an ac) add) (hdl : drop.length ≤ 17592186044416) (hal : add.length ≤ 4000000000000) :
    Calls Tryz.prog 9 #[.agg #[.slice da dn dc, .slice aa an ac, .int .i64 seq2, .int .i64 next2]] w fun e w' => ∃ a1 n1 c1 a2 n2 c2, e = .returned (.agg #[.slice a1 n1 c1, .slice a2 n2 c2, .int .i64 seq2, .int .i64 next2]) ∧ Hid (OwnR w' w.heap.size 3 1 (.slice a1 n1 c1) (drop.map irow)) ∧ Hid (VerO w' w.heap.size a2 n2 c2 add) ∧ Hid (Below w.heap.size w w') := by
  have HD : Hid (IntsR w (.slice da dn dc) drop) := hd
  have HA : Hid (MetsR w (.slice aa an ac) add) := ha
  clear hd ha
  obtain ⟨w0, hw0⟩ : ∃ w0, w0 = (w.alloc (.cells #[.slice da dn dc, .slice aa an ac, .int .i64 seq2, .int .i64 next2] 31)).alloc (.cells #[.slice none 0 0, .slice none 0 0, .int .i64 0, .int .i64 0] 42) := ⟨_, rfl⟩
  have HW0 : Hid ((w.alloc (.cells #[.slice da dn dc, .slice aa an ac, .int .i64 seq2, .int .i64 next2] 31)).alloc (.cells #[.slice none 0 0, .slice none 0 0, .int .i64 0, .int .i64 0] 42) = w0) := hw0.symm
  have U0 : Hid (Below w.heap.size w w0) := by rw [hw0]; exact up_al (up_alloc _ _) _
  have B0 : Hid (w0.heap[w.heap.size]? = some (.cells #[.slice da dn dc, .slice aa an ac, .int .i64 seq2, .int .i64 next2] 31)) := by rw [hw0]; exact blk_up (blk_new _ _) (up_alloc _ _)
  have B2 : Hid (w0.heap[w.heap.size + 1]? = some (.cells #[.slice none 0 0, .slice none 0 0, .int .i64 0, .int .i64 0] 42)) := by
    rw [hw0]
    have := blk_new (w.alloc (.cells #[.slice da dn dc, .slice aa an ac, .int .i64 seq2, .int .i64 next2] 31)) (.cells #[.slice none 0 0, .slice none 0 0, .int .i64 0, .int .i64 0] 42)
    rw [show (w.alloc (.cells #[.slice da dn dc, .slice aa an ac, .int .i64 seq2, .int .i64 next2] 31)).heap.size = w.heap.size + 1 by simp] at this
    exact this
  clear hw0
  have x0 := blk_cell B0.out 0 _ rfl
  have x1 := blk_cell B0.out 1 _ rfl
  have x2 := blk_cell B0.out 2 _ rfl
  have x3 := blk_cell B0.out 3 _ rfl
  go_enter Tryz.func9, Tryz.ntmps9
  go_upto_region 1 with fail
  rw [HW0.out]
  clear HW0
  generalize hN1 : w.heap.size + 1 = N1 at *
  have hn1 : ¬ N1 = w.heap.size := by omega
  have hn2 : ¬ w.heap.size = N1 := by omega
  have HN1 : Hid (w.heap.size ≤ N1) := by unfold Hid; omega
  clear hN1
  have CI : Hid (∀ W, Below w0.heap.size w0 W → Calls Tryz.prog 32 #[.slice da dn dc] W fun e w' => ∃ a n c, e = .returned (.slice a n c) ∧ Hid (OwnR w' w.heap.size 3 1 (.slice a n c) (drop.map irow)) ∧ w'.cell? ⟨w.heap.size, 0, none⟩ = some (.slice da dn dc) ∧ w'.cell? ⟨w.heap.size, 1, none⟩ = some (.slice aa an ac) ∧ w'.cell? ⟨w.heap.size, 2, none⟩ = some (.int .i64 seq2) ∧ w'.cell? ⟨w.heap.size, 3, none⟩ = some (.int .i64 next2) ∧ Hid (w'.heap[N1]? = some (.cells #[.slice none 0 0, .slice none 0 0, .int .i64 0, .int .i64 0] 42)) ∧ Hid (Below w0.heap.size w0 w') ∧ Hid (Below W.heap.size W w')) := by
    intro W u
    refine (copyInts_any drop _ W ((HD.out.up U0.out).up u) hdl).mono ?_
    rintro e w' ⟨a, c, rfl, hO, hb⟩
    have u2 := up_trans u hb.out
    have b0 := blk_up B0.out u2
    exact ⟨a, _, c, rfl, hO.out.mono (by have := (up_trans U0.out u).size; exact this), blk_cell b0 0 _ rfl, blk_cell b0 1 _ rfl, blk_cell b0 2 _ rfl, blk_cell b0 3 _ rfl, blk_up B2.out u2, u2, hb⟩
  have CM : Hid (∀ W, Below w0.heap.size w0 W → Calls Tryz.prog 31 #[.slice aa an ac] W fun e w' => ∃ a n c, e = .returned (.slice a n c) ∧ Hid (VerO w' w.heap.size a n c add) ∧ w'.cell? ⟨w.heap.size, 0, none⟩ = some (.slice da dn dc) ∧ w'.cell? ⟨w.heap.size, 1, none⟩ = some (.slice aa an ac) ∧ w'.cell? ⟨w.heap.size, 2, none⟩ = some (.int .i64 seq2) ∧ w'.cell? ⟨w.heap.size, 3, none⟩ = some (.int .i64 next2) ∧ Hid (w'.heap[N1]? = some (.cells #[.slice none 0 0, .slice none 0 0, .int .i64 0, .int .i64 0] 42)) ∧ Hid (Below w0.heap.size w0 w') ∧ Hid (Below W.heap.size W w')) := by
    intro W u
    refine (ofMetas_own add _ W ((HA.out.up U0.out).up u) hal).mono ?_
    rintro e w' ⟨a, c, rfl, hO, hb⟩
    have u2 := up_trans u hb.out
    have b0 := blk_up B0.out u2
    exact ⟨a, _, c, rfl, hO.out.mono (by have := (up_trans U0.out u).size; exact this), blk_cell b0 0 _ rfl, blk_cell b0 1 _ rfl, blk_cell b0 2 _ rfl, blk_cell b0 3 _ rfl, blk_up B2.out u2, u2, hb⟩
  have u0d : Below w0.heap.size w0 w0.drew := up_dr (Below.refl _ _)
  have U0D : Hid (Below w0.heap.size w0 w0.drew) := u0d
  clear u0d
  go_region_held3 (fun w' => w'.cell? ⟨w.heap.size, 0, none⟩ = some (.slice da dn dc) ∧ w'.cell? ⟨w.heap.size, 1, none⟩ = some (.slice aa an ac) ∧ w'.cell? ⟨w.heap.size, 2, none⟩ = some (.int .i64 seq2) ∧ w'.cell? ⟨w.heap.size, 3, none⟩ = some (.int .i64 next2)) (first | with_reducible exact ⟨x0, x1, x2, x3⟩ | with_reducible exact ⟨z0, z1, z2, z3⟩ | with_reducible exact ⟨y0, y1, y2, y3⟩ | (simp [go_sem, x0, x1, x2, x3]; done) | (simp [go_sem, z0, z1, z2, z3, hn1, hn2]; done) | (simp [go_sem, y0, y1, y2, y3, hn1, hn2]; done)) (first
    | (go_at_call 32; with_reducible refine (CI.out _ U0D.out).mono ?_; rintro e w3 ⟨a3, n3, c3, rfl, O3, z0, z1, z2, z3, b3, u3, v3⟩; have r0 := blk_cell b3.out 0 _ rfl; have r1 := blk_cell b3.out 1 _ rfl; have r2 := blk_cell b3.out 2 _ rfl; have r3 := blk_cell b3.out 3 _ rfl; have f0 := blk_frozen b3.out 0; have f1 := blk_frozen b3.out 1; have f2 := blk_frozen b3.out 2; have f3 := blk_frozen b3.out 3)
    | (go_at_call 31; with_reducible refine (CM.out _ u3.out).mono ?_; rintro e w4 ⟨a4, n4, c4, rfl, O4, y0, y1, y2, y3, b4, u4, v4⟩; have s0 := blk_cell b4.out 0 _ rfl; have s1 := blk_cell b4.out 1 _ rfl; have s2 := blk_cell b4.out 2 _ rfl; have s3 := blk_cell b4.out 3 _ rfl; have g0 := blk_frozen b4.out 0; have g1 := blk_frozen b4.out 1; have g2 := blk_frozen b4.out 2; have g3 := blk_frozen b4.out 3))
  all_goals
    go_wp2_with fail
    refine bodyPost_ret (results_edt1 rfl (.inl rfl) _ _ rfl (set4_blk b4.out _ _ _ _)) rfl ?_
    have U4 := up_trans U0.out u4.out
    have OD := O3.out.up v4.out
    refine ⟨a3, n3, c3, a4, n4, c4, rfl, ?_, ?_, U4.trans (below_grown (set4_grown w4 N1 _ _ _ _) U4.size (fun k hk => by injection hk with hk; have := HN1.out; omega))⟩
    · exact OwnR.far OD (set4_grown w4 N1 _ _ _ _) (own_blk_ne OD.2 b4.out (by decide))
    · exact OwnR.far O4.out (set4_grown w4 N1 _ _ _ _) (own_blk_ne O4.out.2 b4.out (by decide))
end Go.Proofs.YtnchjlimkgbfpaaGreatDoor
