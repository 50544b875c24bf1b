/- The texts LOf, HRef, HRfp, HLiv, OBegn, in this order. -/
import Derived.Test.YtnchjlimkgbfpaaGreatDoorJ37
import Derived.Deep.RegionHeld3
import Derived.Test.YtnchjlimkgbfpaaGreatDoorJ04
import Derived.Test.YtnchjlimkgbfpaaGreatDoorJ17

namespace Go.Proofs.YtnchjlimkgbfpaaGreatDoor
open Go.RowKit
set_option linter.unusedVariables false
set_option maxRecDepth 20000
set_option linter.unusedSimpArgs false
theorem results_ver1 {fn : Func} {t : TypeId} {p : Nat} (h : fn.results = #[.cell p t]) (hl : t = 39 ∨ t = 28) (tmps : Array Value) (w : World) {N : Nat} {a b c : Value} (ht : tmps.getD p undef = .pointer (some ⟨N, 0, none⟩))
    (hc : w.heap[N]? = some (.cells #[a, b, c] t)) : (results fn tmps).run Tryz.prog w = .ok (.agg #[a, b, c]) w := by
  have c0 := blk_cell hc 0 a rfl
  have c1 := blk_cell hc 1 b rfl
  have c2 := blk_cell hc 2 c rfl
  have ht' : tmps[p]?.getD undef = .pointer (some ⟨N, 0, none⟩) := by simpa using ht
  rcases hl with rfl | rfl
  · simp only [results, h]
    simp [ht', go_sem, c0, c1, c2]
  · simp only [results, h]
    simp [ht', go_sem, c0, c1, c2]
theorem results_edt1 {fn : Func} {t : TypeId} {p : Nat} (h : fn.results = #[.cell p t]) (hl : t = 42 ∨ t = 31) (tmps : Array Value) (w : World) {N : Nat} {a b c d : Value} (ht : tmps.getD p undef = .pointer (some ⟨N, 0, none⟩))
    (hc : w.heap[N]? = some (.cells #[a, b, c, d] t)) : (results fn tmps).run Tryz.prog w = .ok (.agg #[a, b, c, d]) w := by
  have c0 := blk_cell hc 0 a rfl
  have c1 := blk_cell hc 1 b rfl
  have c2 := blk_cell hc 2 c rfl
  have c3 := blk_cell hc 3 d rfl
  have ht' : tmps[p]?.getD undef = .pointer (some ⟨N, 0, none⟩) := by simpa using ht
  rcases hl with rfl | rfl
  · simp only [results, h]
    simp [ht', go_sem, c0, c1, c2, c3]
  · simp only [results, h]
    simp [ht', go_sem, c0, c1, c2, c3]
def VerO (w : World) (base : Nat) (a : Option Addr) (n c : Nat) (ts : List Me) : Prop := OwnR w base 148 5 (.slice a n c) (ts.map meRow)
theorem VerO.up {w w' : World} {base : Nat} {a : Option Addr} {n c : Nat} {ts : List Me} (h : VerO w base a n c ts) (hb : Below w.heap.size w w') : VerO w' base a n c ts := OwnR.up h hb
theorem VerO.read {w : World} {base : Nat} {a : Option Addr} {n c : Nat} {ts : List Me} (h : VerO w base a n c ts) : MetsR w (.slice a n c) ts := Rws.own h
set_option maxHeartbeats 4000000 in
set_option maxRecDepth 100000 in
theorem of_anyE (ts : List Me) (seq next : Int) (va : Option Addr) (vn vc : Nat) (w : World) (hv : MetsR w (.slice va vn vc) ts) (hl : ts.length ≤ 4000000000000) :
    Calls Tryz.prog 8 #[.agg #[.slice va vn vc, .int .i64 seq, .int .i64 next]] w fun e w' => ∃ a n c, e = .returned (.agg #[.slice a n c, .int .i64 seq, .int .i64 next]) ∧ Hid (VerO w' w.heap.size a n c ts) ∧ Hid (Below w.heap.size w w') := by
  have HV : Hid (MetsR w (.slice va vn vc) ts) := hv
  clear hv
  obtain ⟨w0, hw0⟩ : ∃ w0, w0 = (w.alloc (.cells #[.slice va vn vc, .int .i64 seq, .int .i64 next] 28)).alloc (.cells #[.slice none 0 0, .int .i64 0, .int .i64 0] 39) := ⟨_, rfl⟩
  have HW0 : Hid ((w.alloc (.cells #[.slice va vn vc, .int .i64 seq, .int .i64 next] 28)).alloc (.cells #[.slice none 0 0, .int .i64 0, .int .i64 0] 39) = w0) := hw0.symm
  have U0 : Hid (Below w.heap.size w w0) := by rw [hw0]; exact up_al (up_alloc _ _) _
  have B0 : Hid (w0.heap[w.heap.size]? = some (.cells #[.slice va vn vc, .int .i64 seq, .int .i64 next] 28)) := by rw [hw0]; exact blk_up (blk_new _ _) (up_alloc _ _)
  have B2 : Hid (w0.heap[w.heap.size + 1]? = some (.cells #[.slice none 0 0, .int .i64 0, .int .i64 0] 39)) := by
    rw [hw0]
    have := blk_new (w.alloc (.cells #[.slice va vn vc, .int .i64 seq, .int .i64 next] 28)) (.cells #[.slice none 0 0, .int .i64 0, .int .i64 0] 39)
    rw [show (w.alloc (.cells #[.slice va vn vc, .int .i64 seq, .int .i64 next] 28)).heap.size = w.heap.size + 1 by simp] at this
    exact this
  clear hw0
  have x0 := blk_cell B0.out 0 _ rfl
  have x1 := blk_cell B0.out 1 _ rfl
  have x2 := blk_cell B0.out 2 _ rfl
  go_enter Tryz.func8, Tryz.ntmps8
  go_upto_region 1 with fail
  rw [HW0.out]
  clear HW0
  generalize hN1 : w.heap.size + 1 = N1 at *
  have hn1 : ¬ N1 = w.heap.size := by omega
  have hn2 : ¬ w.heap.size = N1 := by omega
  have HN1 : Hid (w.heap.size ≤ N1) := by unfold Hid; omega
  clear hN1
  have HC : Hid (Calls Tryz.prog 31 #[.slice va vn vc] w0.drew fun e w' => ∃ a n c, e = .returned (.slice a n c) ∧ Hid (VerO w' w.heap.size a n c ts) ∧ w'.cell? ⟨w.heap.size, 0, none⟩ = some (.slice va vn vc) ∧ w'.cell? ⟨w.heap.size, 1, none⟩ = some (.int .i64 seq) ∧ w'.cell? ⟨w.heap.size, 2, none⟩ = some (.int .i64 next) ∧ Hid (w'.heap[N1]? = some (.cells #[.slice none 0 0, .int .i64 0, .int .i64 0] 39)) ∧ Hid (Below w.heap.size w w')) := by
    have u : Below w0.heap.size w0 w0.drew := up_dr (Below.refl _ _)
    refine (ofMetas_own ts _ w0.drew ((HV.out.up U0.out).up u) hl).mono ?_
    rintro e w' ⟨a, c, rfl, hO, hb⟩
    have u2 := up_trans u hb.out
    have b0 := blk_up B0.out u2
    exact ⟨a, _, c, rfl, hO.out.mono (by have := (up_trans U0.out u).size; exact this), blk_cell b0 0 _ rfl, blk_cell b0 1 _ rfl, blk_cell b0 2 _ rfl, blk_up B2.out u2, up_trans U0.out u2⟩
  go_region_held3 (fun w' => w'.cell? ⟨w.heap.size, 0, none⟩ = some (.slice va vn vc) ∧ w'.cell? ⟨w.heap.size, 1, none⟩ = some (.int .i64 seq) ∧ w'.cell? ⟨w.heap.size, 2, none⟩ = some (.int .i64 next)) (first | with_reducible exact ⟨x0, x1, x2⟩ | with_reducible exact ⟨z0, z1, z2⟩ | (simp [go_sem, x0, x1, x2]; done) | (simp [go_sem, z0, z1, z2, hn1, hn2]; done)) (first
    | (go_at_call 31; with_reducible refine HC.out.mono ?_; rintro e w3 ⟨a3, n3, c3, rfl, O3, z0, z1, z2, b3, u3⟩; have r0 := blk_cell b3.out 0 _ rfl; have r1 := blk_cell b3.out 1 _ rfl; have r2 := blk_cell b3.out 2 _ rfl; have f0 := blk_frozen b3.out 0; have f1 := blk_frozen b3.out 1; have f2 := blk_frozen b3.out 2))
  all_goals
    go_wp2_with fail
    refine bodyPost_ret (results_ver1 rfl (.inl rfl) _ _ rfl (set3_blk b3.out _ _ _)) rfl ?_
    refine ⟨a3, n3, c3, rfl, ?_, u3.out.trans (below_grown (set3_grown w3 N1 _ _ _) u3.out.size (fun k hk => by injection hk with hk; have := HN1.out; omega))⟩
    exact OwnR.far O3.out (set3_grown w3 N1 _ _ _) (own_blk_ne O3.out.2 b3.out (by decide))
set_option maxHeartbeats 4000000 in
set_option maxRecDepth 100000 in
theorem ofEdit_any (drop : List Int) (add : List Me) (seq2 next2 : Int) (da aa : Option Addr) (dn dc an ac : Nat) (w : World) (hd : IntsR w (.slice da dn dc) drop) (ha : MetsR w (.slice aa an ac) add) (hdl : drop.length ≤ 17592186044416) (hal : add.length ≤ 4000000000000) :
    Calls Tryz.prog 9 #[.agg #[.slice da dn dc, .slice aa an ac, .int .i64 seq2, .int .i64 next2]] w fun e w' => ∃ a1 n1 c1 a2 n2 c2, e = .returned (.agg #[.slice a1 n1 c1, .slice a2 n2 c2, .int .i64 seq2, .int .i64 next2]) ∧ Hid (OwnR w' w.heap.size 3 1 (.slice a1 n1 c1) (drop.map irow)) ∧ Hid (VerO w' w.heap.size a2 n2 c2 add) ∧ Hid (Below w.heap.size w w') := by
  have HD : Hid (IntsR w (.slice da dn dc) drop) := hd
  have HA : Hid (MetsR w (.slice aa an ac) add) := ha
  clear hd ha
  obtain ⟨w0, hw0⟩ : ∃ w0, w0 = (w.alloc (.cells #[.slice da dn dc, .slice aa an ac, .int .i64 seq2, .int .i64 next2] 31)).alloc (.cells #[.slice none 0 0, .slice none 0 0, .int .i64 0, .int .i64 0] 42) := ⟨_, rfl⟩
  have HW0 : Hid ((w.alloc (.cells #[.slice da dn dc, .slice aa an ac, .int .i64 seq2, .int .i64 next2] 31)).alloc (.cells #[.slice none 0 0, .slice none 0 0, .int .i64 0, .int .i64 0] 42) = w0) := hw0.symm
  have U0 : Hid (Below w.heap.size w w0) := by rw [hw0]; exact up_al (up_alloc _ _) _
  have B0 : Hid (w0.heap[w.heap.size]? = some (.cells #[.slice da dn dc, .slice aa an ac, .int .i64 seq2, .int .i64 next2] 31)) := by rw [hw0]; exact blk_up (blk_new _ _) (up_alloc _ _)
  have B2 : Hid (w0.heap[w.heap.size + 1]? = some (.cells #[.slice none 0 0, .slice none 0 0, .int .i64 0, .int .i64 0] 42)) := by
    rw [hw0]
    have := blk_new (w.alloc (.cells #[.slice da dn dc, .slice aa an ac, .int .i64 seq2, .int .i64 next2] 31)) (.cells #[.slice none 0 0, .slice none 0 0, .int .i64 0, .int .i64 0] 42)
    rw [show (w.alloc (.cells #[.slice da dn dc, .slice aa an ac, .int .i64 seq2, .int .i64 next2] 31)).heap.size = w.heap.size + 1 by simp] at this
    exact this
  clear hw0
  have x0 := blk_cell B0.out 0 _ rfl
  have x1 := blk_cell B0.out 1 _ rfl
  have x2 := blk_cell B0.out 2 _ rfl
  have x3 := blk_cell B0.out 3 _ rfl
  go_enter Tryz.func9, Tryz.ntmps9
  go_upto_region 1 with fail
  rw [HW0.out]
  clear HW0
  generalize hN1 : w.heap.size + 1 = N1 at *
  have hn1 : ¬ N1 = w.heap.size := by omega
  have hn2 : ¬ w.heap.size = N1 := by omega
  have HN1 : Hid (w.heap.size ≤ N1) := by unfold Hid; omega
  clear hN1
  have CI : Hid (∀ W, Below w0.heap.size w0 W → Calls Tryz.prog 32 #[.slice da dn dc] W fun e w' => ∃ a n c, e = .returned (.slice a n c) ∧ Hid (OwnR w' w.heap.size 3 1 (.slice a n c) (drop.map irow)) ∧ w'.cell? ⟨w.heap.size, 0, none⟩ = some (.slice da dn dc) ∧ w'.cell? ⟨w.heap.size, 1, none⟩ = some (.slice aa an ac) ∧ w'.cell? ⟨w.heap.size, 2, none⟩ = some (.int .i64 seq2) ∧ w'.cell? ⟨w.heap.size, 3, none⟩ = some (.int .i64 next2) ∧ Hid (w'.heap[N1]? = some (.cells #[.slice none 0 0, .slice none 0 0, .int .i64 0, .int .i64 0] 42)) ∧ Hid (Below w0.heap.size w0 w') ∧ Hid (Below W.heap.size W w')) := by
    intro W u
    refine (copyInts_any drop _ W ((HD.out.up U0.out).up u) hdl).mono ?_
    rintro e w' ⟨a, c, rfl, hO, hb⟩
    have u2 := up_trans u hb.out
    have b0 := blk_up B0.out u2
    exact ⟨a, _, c, rfl, hO.out.mono (by have := (up_trans U0.out u).size; exact this), blk_cell b0 0 _ rfl, blk_cell b0 1 _ rfl, blk_cell b0 2 _ rfl, blk_cell b0 3 _ rfl, blk_up B2.out u2, u2, hb⟩
  have CM : Hid (∀ W, Below w0.heap.size w0 W → Calls Tryz.prog 31 #[.slice aa an ac] W fun e w' => ∃ a n c, e = .returned (.slice a n c) ∧ Hid (VerO w' w.heap.size a n c add) ∧ w'.cell? ⟨w.heap.size, 0, none⟩ = some (.slice da dn dc) ∧ w'.cell? ⟨w.heap.size, 1, none⟩ = some (.slice aa an ac) ∧ w'.cell? ⟨w.heap.size, 2, none⟩ = some (.int .i64 seq2) ∧ w'.cell? ⟨w.heap.size, 3, none⟩ = some (.int .i64 next2) ∧ Hid (w'.heap[N1]? = some (.cells #[.slice none 0 0, .slice none 0 0, .int .i64 0, .int .i64 0] 42)) ∧ Hid (Below w0.heap.size w0 w') ∧ Hid (Below W.heap.size W w')) := by
    intro W u
    refine (ofMetas_own add _ W ((HA.out.up U0.out).up u) hal).mono ?_
    rintro e w' ⟨a, c, rfl, hO, hb⟩
    have u2 := up_trans u hb.out
    have b0 := blk_up B0.out u2
    exact ⟨a, _, c, rfl, hO.out.mono (by have := (up_trans U0.out u).size; exact this), blk_cell b0 0 _ rfl, blk_cell b0 1 _ rfl, blk_cell b0 2 _ rfl, blk_cell b0 3 _ rfl, blk_up B2.out u2, u2, hb⟩
  have u0d : Below w0.heap.size w0 w0.drew := up_dr (Below.refl _ _)
  have U0D : Hid (Below w0.heap.size w0 w0.drew) := u0d
  clear u0d
  go_region_held3 (fun w' => w'.cell? ⟨w.heap.size, 0, none⟩ = some (.slice da dn dc) ∧ w'.cell? ⟨w.heap.size, 1, none⟩ = some (.slice aa an ac) ∧ w'.cell? ⟨w.heap.size, 2, none⟩ = some (.int .i64 seq2) ∧ w'.cell? ⟨w.heap.size, 3, none⟩ = some (.int .i64 next2)) (first | with_reducible exact ⟨x0, x1, x2, x3⟩ | with_reducible exact ⟨z0, z1, z2, z3⟩ | with_reducible exact ⟨y0, y1, y2, y3⟩ | (simp [go_sem, x0, x1, x2, x3]; done) | (simp [go_sem, z0, z1, z2, z3, hn1, hn2]; done) | (simp [go_sem, y0, y1, y2, y3, hn1, hn2]; done)) (first
    | (go_at_call 32; with_reducible refine (CI.out _ U0D.out).mono ?_; rintro e w3 ⟨a3, n3, c3, rfl, O3, z0, z1, z2, z3, b3, u3, v3⟩; have r0 := blk_cell b3.out 0 _ rfl; have r1 := blk_cell b3.out 1 _ rfl; have r2 := blk_cell b3.out 2 _ rfl; have r3 := blk_cell b3.out 3 _ rfl; have f0 := blk_frozen b3.out 0; have f1 := blk_frozen b3.out 1; have f2 := blk_frozen b3.out 2; have f3 := blk_frozen b3.out 3)
    | (go_at_call 31; with_reducible refine (CM.out _ u3.out).mono ?_; rintro e w4 ⟨a4, n4, c4, rfl, O4, y0, y1, y2, y3, b4, u4, v4⟩; have s0 := blk_cell b4.out 0 _ rfl; have s1 := blk_cell b4.out 1 _ rfl; have s2 := blk_cell b4.out 2 _ rfl; have s3 := blk_cell b4.out 3 _ rfl; have g0 := blk_frozen b4.out 0; have g1 := blk_frozen b4.out 1; have g2 := blk_frozen b4.out 2; have g3 := blk_frozen b4.out 3))
  all_goals
    go_wp2_with fail
    refine bodyPost_ret (results_edt1 rfl (.inl rfl) _ _ rfl (set4_blk b4.out _ _ _ _)) rfl ?_
    have U4 := up_trans U0.out u4.out
    have OD := O3.out.up v4.out
    refine ⟨a3, n3, c3, a4, n4, c4, rfl, ?_, ?_, U4.trans (below_grown (set4_grown w4 N1 _ _ _ _) U4.size (fun k hk => by injection hk with hk; have := HN1.out; omega))⟩
    · exact OwnR.far OD (set4_grown w4 N1 _ _ _ _) (own_blk_ne OD.2 b4.out (by decide))
    · exact OwnR.far O4.out (set4_grown w4 N1 _ _ _ _) (own_blk_ne O4.out.2 b4.out (by decide))
end Go.Proofs.YtnchjlimkgbfpaaGreatDoor

namespace Go.Proofs.YtnchjlimkgbfpaaGreatDoor
open Go.RowKit
set_option linter.unusedVariables false
set_option maxRecDepth 20000
set_option linter.unusedSimpArgs false
end Go.Proofs.YtnchjlimkgbfpaaGreatDoor

namespace Go.Proofs.YtnchjlimkgbfpaaGreatDoor
open Go.RowKit
set_option linter.unusedVariables false
set_option maxRecDepth 20000
set_option linter.unusedSimpArgs false
end Go.Proofs.YtnchjlimkgbfpaaGreatDoor

namespace Go.Proofs.YtnchjlimkgbfpaaGreatDoor
open Go.RowKit
set_option linter.unusedVariables false
set_option maxRecDepth 20000
set_option linter.unusedSimpArgs false
theorem num_any (x : Int) (w : World) : Calls Tryz.prog 15 #[.int .i64 x] w fun e w' => e = .returned (.int .i64 x) ∧ w' = w := by
  go_enter Tryz.func15, Tryz.ntmps15
  go_wp2
  go_ret
  exact ⟨rfl, rfl⟩
theorem digs12 : digs 12 = [49, 50] := by
  rw [digs_pos (by decide), digs_pos (by decide)]
  simp [digs_zero]
theorem name12 : nameN 116 12 = ([116, 49, 50], 0) := by
  have : nameN 116 12 = (116 :: digs 12, 0) := rfl
  rw [this, digs12]
theorem parse12 : parseN [116, 49, 50] = some (116, 12) := by
  have := parse_name (k := 116) (id := 12) rfl rfl
  rw [show (12 : Int).toNat = 12 from rfl, digs12] at this
  exact this
theorem parse012 : parseN [116, 48, 49, 50] = none := by
  rw [parse_first, if_neg]
  intro q
  have := q.2.2.1.1
  omega
set_option maxHeartbeats 1000000 in
set_option maxRecDepth 20000 in
theorem alive_any (w : World) (he : EnvL w) : Calls Tryz.prog 18 #[] w fun e w' => e = .returned (.bool true) ∧ Below w.heap.size w w' := by
  have H1 := hid (nameX 116 12 { data := #[116, 49, 50] } 0 (by rw [name12]; rfl) (by omega) w he.1)
  have H2 : Hid (∀ w', Below w.heap.size w w' → Calls Tryz.prog 49 #[.string { data := #[116, 48, 49, 50] }] w' fun e w'' => e = .returned (.tuple #[.int .u8 0, .int .i64 0, .bool false]) ∧ Below w'.heap.size w' w'') := by
    intro w' hb
    have := parse_any [116, 48, 49, 50] (by simp) (by simp) w' (he.up hb)
    rw [parse012] at this
    exact this
  have H3 : Hid (∀ w', Below w.heap.size w w' → Calls Tryz.prog 49 #[.string { data := #[116, 49, 50] }] w' fun e w'' => e = .returned (.tuple #[.int .u8 116, .int .i64 12, .bool true]) ∧ Below w'.heap.size w' w'') := by
    intro w' hb
    have := parse_any [116, 49, 50] (by simp) (by simp) w' (he.up hb)
    rw [parse12] at this
    exact this
  clear he
  go_enter Tryz.func18, Tryz.ntmps18
  go_wp2_with fail
  refine H1.out.mono ?_
  rintro e w1 ⟨rfl, hb1⟩
  go_wp2_with fail
  refine (H2.out w1 hb1).mono ?_
  rintro e w2 ⟨rfl, hb2⟩
  have hb2 := up_trans hb1 hb2
  go_wp2_with fail
  refine (H3.out w2 hb2).mono ?_
  rintro e w3 ⟨rfl, hb3⟩
  have hb3 := up_trans hb2 hb3
  go_wp2_with fail
  refine (num_any _ _).mono ?_
  rintro e w4 ⟨rfl, rfl⟩
  go_wp2_with fail
  go_ret
  exact ⟨rfl, hb3⟩
end Go.Proofs.YtnchjlimkgbfpaaGreatDoor

namespace Go.Proofs.YtnchjlimkgbfpaaGreatDoor
open Go.RowKit
set_option linter.unusedVariables false
set_option linter.unusedSimpArgs false
set_option maxRecDepth 20000
theorem good_len {s : St} (h : Good s) : s.names.length + s.safe.length ≤ 512 := by
  have h1 := (check_sound (good_check h)).1.1
  have p := check_parts (good_check h)
  have h2 := names_len p.2.2.1
  have h3 := names_len p.2.2.2.1
  have := h.few
  omega
theorem laidA_ok (q : Bool) {x d : List Int} (hx : OctL x) (hl : x.length ≤ 32) (hd : d.length ≤ 140737488355328) : ∀ a ∈ laidA q x d, okAc a := by
  intro a ha
  unfold laidA at ha
  have h0 : OctL [] := by intro y hy; cases hy
  cases q <;> simp at ha
  · rcases ha with rfl | rfl | rfl <;> exact ⟨by simp [In64], hx, by simp only; omega, h0, by simp, by simp [hd]⟩
  · rcases ha with rfl | rfl | rfl | rfl <;> exact ⟨by simp [In64], hx, by simp only; omega, h0, by simp, by simp [hd]⟩
theorem begL_ok (s : St) {M F P : List Int} (hM : OctL M) (hl : M.length ≤ 32) (hF : F.length ≤ 140737488355328) (hP : P.length ≤ 140737488355328) : ∀ a ∈ begL s M F P, okAc a := by
  intro a ha
  have h0 : OctL [] := by intro y hy; cases hy
  unfold begL at ha
  rcases List.mem_append.1 ha with q | q
  · exact laidA_ok _ hM hl hF a q
  · rcases List.mem_append.1 q with q | q
    · exact laidA_ok _ nxt_oct (by decide) hP a q
    · simp at q
      rcases q with rfl | rfl | rfl
      · exact ⟨by simp [In64], h0, by simp, h0, by simp, by simp⟩
      · exact ⟨by simp [In64], nxt_oct, by decide, cur_oct, by decide, by simp⟩
      · exact ⟨by simp [In64], h0, by simp, h0, by simp, by simp⟩
theorem begP_ok {s : St} {ts : List Me} {sq nx id : Int} : ∀ a ∈ (begP s ts sq nx id).1, okAc a := by
  unfold begP
  split
  · split
    · split
      · rename_i h1 h2 h3
        have q := whole_enc (errV_zero.1 h2)
        have hn := nameN_octO h3
        have h4 : 1 ≤ id ∧ id ≤ 2147483647 := by simpa [idOk] using h3
        have hp := ptr_len h4
        have hf := edF_len q.2
        rw [hn.1]
        exact begL_ok s hn.2.1 (by have := hn.2.2; simp only; omega) (by omega) (by omega)
      · intro a ha; cases ha
    · intro a ha; cases ha
  · intro a ha; cases ha
theorem good_after {s : St} (h : Good s) (l : List Ac) : checkP s = true → ∀ k, k ≤ l.length → Sound (afterN s l k) := fun _ k hk => check_sound (good_check (after_good h l k hk))
def begunP (s : St) (ts : List Me) (sq nx id : Int) : St × Bool := if (begP s ts sq nx id).2 = 0 then ((runP s (begP s ts sq nx id).1).1, decide ((runP s (begP s ts sq nx id).1).2.2 = 0)) else (s, false)
theorem up_set5 {w W : World} {N : Nat} {a b c d e : Value} (h : Below w.heap.size w W) (hN : w.heap.size ≤ N) : Below w.heap.size w (((((W.setCell ⟨N, 0, none⟩ a).setCell ⟨N, 1, none⟩ b).setCell ⟨N, 2, none⟩ c).setCell ⟨N, 3, none⟩ d).setCell ⟨N, 4, none⟩ e) := by
  refine Below.grown (row := some N) h ?_ h.size (fun k hk => by injection hk with hk; omega)
  exact grown_trans (grown_trans (grown_trans (grown_trans (grown_set W ⟨N, 0, none⟩ a) (grown_set _ ⟨N, 1, none⟩ b)) (grown_set _ ⟨N, 2, none⟩ c)) (grown_set _ ⟨N, 3, none⟩ d)) (grown_set _ ⟨N, 4, none⟩ e)
theorem set5_blkS {W : World} {N : Nat} {x0 x1 x2 x3 x4 : Value} {t : TypeId} (h : W.heap[N]? = some (.cells #[x0, x1, x2, x3, x4] t)) (a b c d e : Value) : (((((W.setCell ⟨N, 0, none⟩ a).setCell ⟨N, 1, none⟩ b).setCell ⟨N, 2, none⟩ c).setCell ⟨N, 3, none⟩ d).setCell ⟨N, 4, none⟩ e).heap[N]? = some (.cells #[a, b, c, d, e] t) :=
  blk_set (blk_set (blk_set (blk_set (blk_set h 0 a) 1 b) 2 c) 3 d) 4 e
set_option maxHeartbeats 4000000 in
theorem begun_any (s : St) (v : Value) (ts : List Me) (seq next id : Int) (va : Option Addr) (vn vc : Nat) (w : World) (hg : Good s) (hv : StW w v s) (hm : MetsR w (.slice va vn vc) ts) (htl : ts.length ≤ 4000000000000) (he : EnvL w) :
    Calls Tryz.prog 25 #[v, .agg #[.slice va vn vc, .int .i64 seq, .int .i64 next], .int .i64 id] w fun e w' => ∃ v', e = .returned (.tuple #[v', .bool (begunP s ts seq next id).2]) ∧ Hid (StW w' v' (begunP s ts seq next id).1) ∧ Hid (Below w.heap.size w w') ∧ Hid ((begunP s ts seq next id).2 = true → OwnV w' w.heap.size v' (begunP s ts seq next id).1) := by
  have hgl := good_len hg
  obtain ⟨af, nf, cf, an, nn, cn, as', ns, cs', ev⟩ := hv.shape
  subst ev
  have HS : Hid (StW w (.agg #[.int .i64 s.cap, .slice af nf cf, .slice an nn cn, .slice as' ns cs', .int .i64 s.next]) s) := hv
  have HM : Hid (MetsR w (.slice va vn vc) ts) := hm
  have HE : Hid (EnvL w) := he
  have HG : Hid (Good s) := hg
  have HPd : Hid (begunP s ts seq next id = if (begP s ts seq next id).2 = 0 then ((runP s (begP s ts seq next id).1).1, decide ((runP s (begP s ts seq next id).1).2.2 = 0)) else (s, false)) := rfl
  have HOk := hid (begP_ok (s := s) (ts := ts) (sq := seq) (nx := next) (id := id))
  obtain ⟨w0, hw0⟩ : ∃ w0, w0 = ((w.alloc (.cells #[.int .i64 s.cap, .slice af nf cf, .slice an nn cn, .slice as' ns cs', .int .i64 s.next] 35)).alloc (.cells #[.slice va vn vc, .int .i64 seq, .int .i64 next] 28)).alloc (.cells #[.int .i64 0, .slice none 0 0, .slice none 0 0, .slice none 0 0, .int .i64 0] 35) := ⟨_, rfl⟩
  have HW0 : Hid (((w.alloc (.cells #[.int .i64 s.cap, .slice af nf cf, .slice an nn cn, .slice as' ns cs', .int .i64 s.next] 35)).alloc (.cells #[.slice va vn vc, .int .i64 seq, .int .i64 next] 28)).alloc (.cells #[.int .i64 0, .slice none 0 0, .slice none 0 0, .slice none 0 0, .int .i64 0] 35) = w0) := hid hw0.symm
  have U0 : Hid (Below w.heap.size w w0) := by rw [hw0]; exact up_al (up_al (up_alloc _ _) _) _
  have sz1 : ∀ (W : World) (o : Obj), (W.alloc o).heap.size = W.heap.size + 1 := fun W o => by simp
  have B0 : Hid (w0.heap[w.heap.size]? = some (.cells #[.int .i64 s.cap, .slice af nf cf, .slice an nn cn, .slice as' ns cs', .int .i64 s.next] 35)) := by rw [hw0]; exact blk_up (blk_new _ _) (up_al (up_alloc _ _) _)
  have B1 : Hid (w0.heap[w.heap.size + 1]? = some (.cells #[.slice va vn vc, .int .i64 seq, .int .i64 next] 28)) := by
    rw [hw0, ← sz1 w (.cells #[.int .i64 s.cap, .slice af nf cf, .slice an nn cn, .slice as' ns cs', .int .i64 s.next] 35)]
    exact blk_up (blk_new _ _) (up_alloc _ _)
  have B2 : Hid (w0.heap[w.heap.size + 1 + 1]? = some (.cells #[.int .i64 0, .slice none 0 0, .slice none 0 0, .slice none 0 0, .int .i64 0] 35)) := by
    rw [hw0, ← sz1 w (.cells #[.int .i64 s.cap, .slice af nf cf, .slice an nn cn, .slice as' ns cs', .int .i64 s.next] 35), ← sz1 _ (.cells #[.slice va vn vc, .int .i64 seq, .int .i64 next] 28)]
    exact blk_new _ _
  have HCE : Hid (∀ W, Below w0.heap.size w0 W → W.cell? ⟨w.heap.size, 0, none⟩ = some (.int .i64 s.cap) ∧ W.cell? ⟨w.heap.size, 1, none⟩ = some (.slice af nf cf) ∧ W.cell? ⟨w.heap.size, 2, none⟩ = some (.slice an nn cn) ∧ W.cell? ⟨w.heap.size, 3, none⟩ = some (.slice as' ns cs') ∧ W.cell? ⟨w.heap.size, 4, none⟩ = some (.int .i64 s.next) ∧ W.cell? ⟨w.heap.size + 1, 0, none⟩ = some (.slice va vn vc) ∧ W.cell? ⟨w.heap.size + 1, 1, none⟩ = some (.int .i64 seq) ∧ W.cell? ⟨w.heap.size + 1, 2, none⟩ = some (.int .i64 next)) := fun W h => ⟨blk_cell (blk_up B0.out h) 0 _ rfl, blk_cell (blk_up B0.out h) 1 _ rfl, blk_cell (blk_up B0.out h) 2 _ rfl, blk_cell (blk_up B0.out h) 3 _ rfl, blk_cell (blk_up B0.out h) 4 _ rfl, blk_cell (blk_up B1.out h) 0 _ rfl, blk_cell (blk_up B1.out h) 1 _ rfl, blk_cell (blk_up B1.out h) 2 _ rfl⟩
  have C8 : Hid (∀ W, Below w0.heap.size w0 W → Calls Tryz.prog 8 #[.agg #[.slice va vn vc, .int .i64 seq, .int .i64 next]] W fun e w' => ∃ a n c, e = .returned (.agg #[.slice a n c, .int .i64 seq, .int .i64 next]) ∧ Hid (MetsR w' (.slice a n c) ts) ∧ Hid (Below w0.heap.size w0 w')) := by
    intro W u
    refine (of_anyE ts seq next va vn vc W (HM.out.up (up_trans U0.out u)) htl).mono ?_
    rintro e w' ⟨a, n, c, rfl, hO, hb⟩
    exact ⟨a, n, c, rfl, Rws.own hO.out, up_trans u hb.out⟩
  have C10 : Hid (∀ a n c W, Below w0.heap.size w0 W → MetsR W (.slice a n c) ts → Calls Tryz.prog 10 #[.agg #[.int .i64 s.cap, .slice af nf cf, .slice an nn cn, .slice as' ns cs', .int .i64 s.next], .agg #[.slice a n c, .int .i64 seq, .int .i64 next], .int .i64 id] W fun e w' => ∃ a' n' c', e = .returned (.tuple #[.slice a' n' c', .int .i64 (begP s ts seq next id).2]) ∧ Hid (ActsW w' (.slice a' n' c') (begP s ts seq next id).1) ∧ Hid (Below w0.heap.size w0 w')) := by
    intro a n c W u hM
    refine (begin_any s _ ts seq next id a n c W (HS.out.up (up_trans U0.out u)) hM (by omega) (HE.out.up (up_trans U0.out u))).mono ?_
    rintro e w' ⟨a', n', c', rfl, hO, hb⟩
    exact ⟨a', n', c', rfl, hO.out.acts HOk.out, up_trans u hb.out⟩
  obtain ⟨x0, x1, x2, x3, x4, y0, y1, y2⟩ := HCE.out w0 (Below.refl _ _)
  have HN2 : Hid (w.heap.size ≤ w.heap.size + 1 + 1) := by unfold Hid; omega
  clear hw0 hv hm he hg sz1
  go_enter Tryz.func25, Tryz.ntmps25
  go_upto_region 1 with fail
  rw [HW0.out]
  clear HW0
  generalize hNr : w.heap.size + 1 + 1 = N2 at *
  clear hNr
  generalize begP s ts seq next id = R at *
  go_cut [8, 9] from 13 (fun vA vB wx => ∃ a' n' c', vA = .slice a' n' c' ∧ vB = .int .i64 R.2 ∧ Hid (ActsW wx (.slice a' n' c') R.1) ∧ Hid (Below w0.heap.size w0 wx))
  case first =>
    go_region_held3 (fun w' => w'.cell? ⟨w.heap.size, 0, none⟩ = some (.int .i64 s.cap) ∧ w'.cell? ⟨w.heap.size, 1, none⟩ = some (.slice af nf cf) ∧ w'.cell? ⟨w.heap.size, 2, none⟩ = some (.slice an nn cn) ∧ w'.cell? ⟨w.heap.size, 3, none⟩ = some (.slice as' ns cs') ∧ w'.cell? ⟨w.heap.size, 4, none⟩ = some (.int .i64 s.next) ∧ w'.cell? ⟨w.heap.size + 1, 0, none⟩ = some (.slice va vn vc) ∧ w'.cell? ⟨w.heap.size + 1, 1, none⟩ = some (.int .i64 seq) ∧ w'.cell? ⟨w.heap.size + 1, 2, none⟩ = some (.int .i64 next)) (first | with_reducible exact ⟨x0, x1, x2, x3, x4, y0, y1, y2⟩ | (with_reducible refine HCE.out _ ?_; first | with_reducible exact Below.refl _ _ | with_reducible exact up_dr (Below.refl _ _) | with_reducible exact u6.out | with_reducible exact u5.out)) (first
      | (go_at_call 8; with_reducible refine (C8.out _ (up_dr (Below.refl _ _))).mono ?_; rintro e w5a ⟨a5, n5, c5, rfl, M5, u5⟩)
      | (go_at_call 10; with_reducible refine (C10.out _ _ _ _ u5.out M5.out).mono ?_; rintro e w6 ⟨a6, n6, c6, rfl, R6, u6⟩))
    go_wp2_with fail
    go_meet
    case rel => exact ⟨a6, n6, c6, rfl, rfl, R6, u6⟩
  case rest =>
  obtain ⟨a6, n6, c6, rfl, rfl, R6, u6⟩ := hcut
  clear C8 C10 x0 x1 x2 x3 x4 y0 y1 y2
  have U6 : Hid (Below w.heap.size w wc) := up_trans U0.out u6.out
  obtain ⟨x0, x1, x2, x3, x4, -, -, -⟩ := HCE.out wc u6.out
  have B26 : Hid (wc.heap[N2]? = some (.cells #[.int .i64 0, .slice none 0 0, .slice none 0 0, .slice none 0 0, .int .i64 0] 35)) := blk_up B2.out u6.out
  clear HCE B0 B1 B2
  by_cases c1 : R.2 = 0
  case neg =>
    have c1b : (R.2 != 0) = true := by simpa using c1
    have HZ : Hid (begunP s ts seq next id = (s, false)) := by rw [HPd.out, if_neg c1]; rfl
    have z0 := blk_cell B26.out 0 _ rfl
    have z1 := blk_cell B26.out 1 _ rfl
    have z2 := blk_cell B26.out 2 _ rfl
    have z3 := blk_cell B26.out 3 _ rfl
    have z4 := blk_cell B26.out 4 _ rfl
    have f0 := blk_frozen B26.out 0
    have f1 := blk_frozen B26.out 1
    have f2 := blk_frozen B26.out 2
    have f3 := blk_frozen B26.out 3
    have f4 := blk_frozen B26.out 4
    clear HPd c1 R6
    go_wp2_with fail
    refine (num_any _ _).mono ?_
    rintro e w7 ⟨rfl, hw7⟩
    have hw7 := hw7.symm
    subst hw7
    go_wp2_with fail
    refine bodyPost_ret (results_state1 rfl _ _ rfl rfl (set5_blkS B26.out _ _ _ _ _)) rfl ?_
    rw [HZ.out]
    exact ⟨_, rfl, HS.out.up (up_set5 U6.out HN2.out), up_set5 U6.out HN2.out, fun h => by cases h⟩
  have HZ : Hid (begunP s ts seq next id = ((runP s R.1).1, decide ((runP s R.1).2.2 = 0))) := by rw [HPd.out, if_pos c1]; rfl
  have HRu := hid (run_any s R.1 _ _ wc (HS.out.up U6.out) R6.out (by omega) (good_after HG.out R.1))
  rw [c1]
  clear HPd c1
  generalize runP s R.1 = Q at *
  go_wp2_with fail
  refine (num_any _ _).mono ?_
  rintro e w7 ⟨rfl, hw7⟩
  have hw7 := hw7.symm
  subst hw7
  go_wp2_with fail
  refine HRu.out.mono ?_
  rintro e w8 ⟨v8, rfl, o8, b8⟩
  obtain ⟨bf, mf, df, bn, mn, dn, bs, ms, ds, ev8⟩ := o8.shape
  subst ev8
  have S8 := hid (StW.own o8)
  obtain ⟨w9, hw9⟩ : ∃ w9, w9 = w8.alloc (.cells #[.int .i64 Q.1.cap, .slice bf mf df, .slice bn mn dn, .slice bs ms ds, .int .i64 Q.1.next] 35) := ⟨_, rfl⟩
  have HW9 : Hid (w8.alloc (.cells #[.int .i64 Q.1.cap, .slice bf mf df, .slice bn mn dn, .slice bs ms ds, .int .i64 Q.1.next] 35) = w9) := hid hw9.symm
  have V9 : Hid (Below w8.heap.size w8 w9) := by rw [hw9]; exact up_alloc _ _
  have U9 : Hid (Below w.heap.size w w9) := up_trans U6.out (up_trans b8 V9.out)
  have B9 : Hid (w9.heap[w8.heap.size]? = some (.cells #[.int .i64 Q.1.cap, .slice bf mf df, .slice bn mn dn, .slice bs ms ds, .int .i64 Q.1.next] 35)) := by rw [hw9]; exact blk_new _ _
  have B29 : Hid (w9.heap[N2]? = some (.cells #[.int .i64 0, .slice none 0 0, .slice none 0 0, .slice none 0 0, .int .i64 0] 35)) := blk_up B26.out (up_trans b8 V9.out)
  have S9 : Hid (StW (((((w9.setCell ⟨N2, 0, none⟩ (.int .i64 Q.1.cap)).setCell ⟨N2, 1, none⟩ (.slice bf mf df)).setCell ⟨N2, 2, none⟩ (.slice bn mn dn)).setCell ⟨N2, 3, none⟩ (.slice bs ms ds)).setCell ⟨N2, 4, none⟩ (.int .i64 Q.1.next)) (.agg #[.int .i64 Q.1.cap, .slice bf mf df, .slice bn mn dn, .slice bs ms ds, .int .i64 Q.1.next]) Q.1) := StW.own (OwnV.put (o8.up V9.out) B29.out).2
  have O9 : Hid (OwnV (((((w9.setCell ⟨N2, 0, none⟩ (.int .i64 Q.1.cap)).setCell ⟨N2, 1, none⟩ (.slice bf mf df)).setCell ⟨N2, 2, none⟩ (.slice bn mn dn)).setCell ⟨N2, 3, none⟩ (.slice bs ms ds)).setCell ⟨N2, 4, none⟩ (.int .i64 Q.1.next)) w.heap.size (.agg #[.int .i64 Q.1.cap, .slice bf mf df, .slice bn mn dn, .slice bs ms ds, .int .i64 Q.1.next]) Q.1) := (OwnV.put (o8.up V9.out) B29.out).2.mono U6.out.size
  clear hw9 o8 b8 HRu x0 x1 x2 x3 x4
  go_upto_region 5 with fail
  rw [HW9.out]
  clear HW9
  have x0 := blk_cell B9.out 0 _ rfl
  have x1 := blk_cell B9.out 1 _ rfl
  have x2 := blk_cell B9.out 2 _ rfl
  have x3 := blk_cell B9.out 3 _ rfl
  have x4 := blk_cell B9.out 4 _ rfl
  have z0 := blk_cell B29.out 0 _ rfl
  have z1 := blk_cell B29.out 1 _ rfl
  have z2 := blk_cell B29.out 2 _ rfl
  have z3 := blk_cell B29.out 3 _ rfl
  have z4 := blk_cell B29.out 4 _ rfl
  have f0 := blk_frozen B29.out 0
  have f1 := blk_frozen B29.out 1
  have f2 := blk_frozen B29.out 2
  have f3 := blk_frozen B29.out 3
  have f4 := blk_frozen B29.out 4
  go_region_with ((go_at_call 15; refine (num_any _ _).mono ?_; rintro e w' ⟨rfl, rfl⟩))
  all_goals
    go_wp2_with fail
    refine bodyPost_ret (results_state1 rfl _ _ rfl rfl (set5_blkS B29.out _ _ _ _ _)) rfl ?_
    rw [HZ.out]
    refine ⟨_, rfl, ?_, ?_, ?_⟩
    · unfold Hid; dsimp only; first | with_reducible exact S9.out | (with_reducible refine StW.up S9.out ?_; with_reducible exact up_dr (Below.refl _ _))
    · unfold Hid; first | with_reducible exact up_set5 U9.out HN2.out | (with_reducible refine up_dr ?_; with_reducible exact up_set5 U9.out HN2.out) | with_reducible exact up_set5 (up_dr U9.out) HN2.out
    · unfold Hid; intro _; dsimp only; first | with_reducible exact O9.out | (with_reducible refine OwnV.up O9.out ?_; with_reducible exact up_dr (Below.refl _ _))
end Go.Proofs.YtnchjlimkgbfpaaGreatDoor
