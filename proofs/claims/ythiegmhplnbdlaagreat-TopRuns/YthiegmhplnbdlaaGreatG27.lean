/- Texts of layers 1 to 13, in this order. -/
import Derived.Test.YthiegmhplnbdlaaGreatG26
import Derived.Test.YthiegmhplnbdlaaGreatG21
import Derived.Test.YthiegmhplnbdlaaGreatG09
import Derived.Test.YthiegmhplnbdlaaGreatG24

namespace Go.Proofs.YthiegmhplnbdlaaGreat
open Go.RowKit SumPlain
set_option linter.unusedVariables false
set_option linter.unusedSimpArgs false
theorem grown_new {W W1 W2 : World} {r : Option Nat} {g : Nat} (h : W.grownBy W1 r) (h2 : W1.grownBy W2 (some g)) (hg : W.heap.size ≤ g) : W.grownBy W2 r := by
  obtain ⟨a1, a2, a3, a4, a5⟩ := h
  obtain ⟨b1, b2, b3, b4, b5⟩ := h2
  refine ⟨b1.trans a1, b2.trans a2, b3.trans a3, Nat.le_trans a4 b4, fun i hi hr => ?_⟩
  rw [b5 i (by omega) (by intro e; injection e with e; omega), a5 i hi hr]
structure ApS (W : World) (base : Nat) (v0 : Value) (N : Nat) (x : En) (v : Value) (L : List Int) (W' : World) : Prop where
  ob : OwnB W' base v L
  gr : W.grownBy W' v0.ownBlock
  pl : v.ownBlock = v0.ownBlock ∨ ∃ g, v.ownBlock = some g ∧ W.heap.size ≤ g
  bx : BoxN W' N x
  hb : base ≤ W'.heap.size
theorem ApS.up {W : World} {base : Nat} {v0 : Value} {N : Nat} {x : En} {v : Value} {L : List Int} {W' W2 : World} (h : ApS W base v0 N x v L W') (hb : Below W'.heap.size W' W2) : ApS W base v0 N x v L W2 :=
  ⟨own_up h.ob hb, grown_trans h.gr (grown_up hb _), h.pl, h.bx.up hb, Nat.le_trans h.hb hb.size⟩
theorem ApS.app {W : World} {base : Nat} {v0 : Value} {N : Nat} {x : En} {v v' : Value} {L L' : List Int} {W' W2 : World} (h : ApS W base v0 N x v L W') (ho : OwnB W2 base v' L') (hg : W'.grownBy W2 v.ownBlock) (ha : v'.ownBlock = v.ownBlock ∨ ∃ g, v'.ownBlock = some g ∧ W'.heap.size ≤ g) : ApS W base v0 N x v' L' W2 := by
  have hs : W.heap.size ≤ W'.heap.size := h.gr.size
  refine ⟨ho, ?_, ?_, ?_, Nat.le_trans h.hb hg.size⟩
  · rcases h.pl with q | ⟨g, q, hq⟩
    · rw [q] at hg; exact grown_trans h.gr hg
    · rw [q] at hg; exact grown_new h.gr hg hq
  · rcases ha with q | ⟨g, q, hq⟩
    · rw [q]; exact h.pl
    · exact .inr ⟨g, q, by omega⟩
  · exact blk_grown h.bx hg (fun e => by
      rcases own_blk_ne h.ob h.bx (by decide) with q | q
      · rw [q] at e; cases e
      · exact q e.symm)
theorem putO (n : Int) (h0 : 0 ≤ n) (h1 : n ≤ 18446744073709551615) (W : World) : Calls Tryz.prog 50 #[.int .u64 n] W fun e w' => ∃ a n' c, e = .returned (.slice a n' c) ∧ Hid (Octs w' (.slice a n' c) (octets n)) ∧ Hid (Below W.heap.size W w') := by
  refine (put_any n W h0 h1).mono ?_
  rintro e w' ⟨v, rfl, ho, hb⟩
  obtain ⟨a, n', c, rfl, _⟩ := own_shape ho
  exact ⟨a, n', c, rfl, Octs.put ho h0 h1, hb⟩
set_option maxHeartbeats 4000000 in
set_option maxRecDepth 100000 in
theorem appVer_any (x : En) (ahead : ByteArray) (base : Nat) (a : Option Addr) (n c : Nat) (L : List Int) (W : World) (ho : OwnB W base (.slice a n c) L) (hb : base ≤ W.heap.size) (hmx : mayE x = true) (hah : ahead.size ≤ 140737488355328) (hL : L.length ≤ 41280) :
    Calls Tryz.prog 91 #[.slice a n c, enV x, .string ahead] W fun e w' => ∃ a' n' c', e = .returned (.slice a' n' c') ∧ Hid (OwnB w' base (.slice a' n' c') (L ++ entO (comL (nums ahead) (nums x.key)) x)) ∧ Hid (W.grownBy w' (Value.slice a n c).ownBlock) ∧ Hid ((Value.slice a' n' c').ownBlock = (Value.slice a n c).ownBlock ∨ ∃ g, (Value.slice a' n' c').ownBlock = some g ∧ W.heap.size ≤ g) := by
  obtain ⟨mk1, mk2, ms1, ms2, md1, md2, mv1⟩ := mayE_le hmx
  have hks : x.key.size = (nums x.key).length := (nums_length _).symm
  have hvs : x.val.size = (nums x.val).length := (nums_length _).symm
  have HCM : Hid (∀ W : World, Calls Tryz.prog 110 #[.string x.key, .string ahead] W fun e w' => e = .returned (.int .i64 (comL (nums ahead) (nums x.key) : Nat)) ∧ ∃ d, w' = W.drewN d) := fun W => by
    have h := commonP_any x.key ahead (by omega) hah W
    rw [comL_symm] at h
    exact h
  have hle := (comL_le (nums ahead) (nums x.key)).2
  generalize comL (nums ahead) (nums x.key) = sN at *
  obtain ⟨rN, hrN⟩ : ∃ rN, rN = (nums x.key).length - sN := ⟨_, rfl⟩
  have HEQ : Hid (entO sN x = octets (sN : Int) ++ (octets (rN : Int) ++ (octets x.seq ++ (octets ((nums x.val).length : Int) ++ (x.kind :: ((nums x.key).drop sN ++ nums x.val)))))) := by unfold Hid entO; rw [hrN]
  have hsr : ((nums x.key).length : Int) - (sN : Int) = (rN : Int) := by omega
  have hwr : IntKind.i64.wrap (rN : Int) = (rN : Int) := by rw [IntKind.wrap_i64]; omega
  have A0 : Hid (ApS W base (.slice a n c) W.heap.size x (.slice a n c) L (W.alloc (enObj x))) := ⟨own_up ho (up_alloc _ _), grown_up (up_alloc _ _) _, .inl rfl, blk_new _ _, by have := (up_alloc W (enObj x)).size; omega⟩
  have CL : Hid (L.length ≤ 41280) := hL
  have hsn0 : (0 : Int) ≤ (sN : Int) ∧ (sN : Int) ≤ 18446744073709551615 := by omega
  have hrn0 : (0 : Int) ≤ (rN : Int) ∧ (rN : Int) ≤ 18446744073709551615 := by omega
  have HP0 := hid (putO (sN : Int) hsn0.1 hsn0.2)
  have HP1 := hid (putO (rN : Int) hrn0.1 hrn0.2)
  have HP2 := hid (putO x.seq (by omega) (by omega))
  have HP3 := hid (putO ((nums x.val).length : Int) (by omega) (by omega))
  have OL0 : Hid ((octets (sN : Int)).length ≤ 9) := (octets_len _ hsn0.1 hsn0.2).2
  have OL1 : Hid ((octets (rN : Int)).length ≤ 9) := (octets_len _ hrn0.1 hrn0.2).2
  have OL2 : Hid ((octets x.seq).length ≤ 9) := (octets_len _ (by omega) (by omega)).2
  have OL3 : Hid ((octets ((nums x.val).length : Int)).length ≤ 9) := (octets_len _ (by omega) (by omega)).2
  generalize octets (sN : Int) = O0 at *
  generalize octets (rN : Int) = O1 at *
  generalize octets x.seq = O2 at *
  generalize octets ((nums x.val).length : Int) = O3 at *
  clear hrN ho hL hah hsn0 hrn0
  unfold enV
  unfold enObj at A0
  go_enter Tryz.func91, Tryz.ntmps91
  go_wp2_with fail
  refine (HCM.out _).mono ?_
  rintro e w1 ⟨rfl, d, hw1⟩
  have A1 : Hid (ApS W base (.slice a n c) W.heap.size x (.slice a n c) L w1) := by rw [hw1]; exact A0.out.up (up_drewN _ d)
  clear hw1 A0 HCM
  generalize W.heap.size = N at *
  obtain ⟨z0, z1, z2, z3⟩ := A1.out.bx.cells
  go_wp2_with fail
  generalize hWA : w1.alloc (.cells #[.int .i64 (sN : Int), .int .i64 (rN : Int), .int .i64 x.seq, .int .i64 ((nums x.val).length : Int)] 189) = W2 at *
  have EA : Hid (ApS W base (.slice a n c) N x (.slice a n c) L W2) := by rw [← hWA]; exact A1.out.up (up_alloc _ _)
  clear hWA A1 z0 z1 z2 z3
  have ix0 := fun w => (idx70 (sN : Int) (rN : Int) x.seq ((nums x.val).length : Int) w).1
  have ix1 := fun w => (idx70 (sN : Int) (rN : Int) x.seq ((nums x.val).length : Int) w).2.1
  have ix2 := fun w => (idx70 (sN : Int) (rN : Int) x.seq ((nums x.val).length : Int) w).2.2.1
  have ix3 := fun w => (idx70 (sN : Int) (rN : Int) x.seq ((nums x.val).length : Int) w).2.2.2
  refine wp_loop_rounds 5 ?_
  rw [rounds_succ]
  go_wp2_with fail
  refine (HP0.out _).mono ?_
  rintro e p0 ⟨pa0, pn0, pc0, rfl, PO0, pb0⟩
  clear HP0
  have EP0 : Hid (ApS W base (.slice a n c) N x (.slice a n c) L p0) := EA.out.up pb0.out
  have HZ0 : Hid (L.length + O0.length ≤ 140737488355328) := by have := CL.out; have := OL0.out; unfold Hid; omega
  clear EA pb0
  go_wp2_with (at_builtin; refine wpList_append_octs_at p0 rfl _ _ rfl base (.slice a n c) L rfl EP0.out.ob (.slice pa0 pn0 pc0) O0 rfl PO0.out HZ0.out EP0.out.hb ?_)
  intro v0 W0' ho hg ha
  obtain ⟨ba0, bn0, bc0, rfl, _⟩ := own_shape ho
  obtain ⟨C0, hC0⟩ : ∃ C', C' = L ++ O0 := ⟨_, rfl⟩
  rw [← hC0] at ho
  have CE0 : Hid (C0 = L ++ O0) := hC0
  have CL0 : Hid (C0.length ≤ 41289) := by have := CL.out; have := OL0.out; unfold Hid; rw [hC0, List.length_append]; omega
  clear CL hC0
  have CL := CL0
  clear CL0
  have EA : Hid (ApS W base (.slice a n c) N x (.slice ba0 bn0 bc0) C0 W0') := EP0.out.app ho hg (ha.imp id fun h => ⟨_, h, Nat.le_refl _⟩)
  clear ho hg ha EP0 PO0 HZ0
  go_wp2_with fail
  rw [rounds_succ]
  go_wp2_with fail
  refine (HP1.out _).mono ?_
  rintro e p1 ⟨pa1, pn1, pc1, rfl, PO1, pb1⟩
  clear HP1
  have EP1 : Hid (ApS W base (.slice a n c) N x (.slice ba0 bn0 bc0) C0 p1) := EA.out.up pb1.out
  have HZ1 : Hid (C0.length + O1.length ≤ 140737488355328) := by have := CL.out; have := OL1.out; unfold Hid; omega
  clear EA pb1
  go_wp2_with (at_builtin; refine wpList_append_octs_at p1 rfl _ _ rfl base (.slice ba0 bn0 bc0) C0 rfl EP1.out.ob (.slice pa1 pn1 pc1) O1 rfl PO1.out HZ1.out EP1.out.hb ?_)
  intro v1 W1' ho hg ha
  obtain ⟨ba1, bn1, bc1, rfl, _⟩ := own_shape ho
  obtain ⟨C1, hC1⟩ : ∃ C', C' = C0 ++ O1 := ⟨_, rfl⟩
  rw [← hC1] at ho
  have CE1 : Hid (C1 = C0 ++ O1) := hC1
  have CL1 : Hid (C1.length ≤ 41298) := by have := CL.out; have := OL1.out; unfold Hid; rw [hC1, List.length_append]; omega
  clear CL hC1
  have CL := CL1
  clear CL1
  have EA : Hid (ApS W base (.slice a n c) N x (.slice ba1 bn1 bc1) C1 W1') := EP1.out.app ho hg (ha.imp id fun h => ⟨_, h, Nat.le_refl _⟩)
  clear ho hg ha EP1 PO1 HZ1
  go_wp2_with fail
  rw [rounds_succ]
  go_wp2_with fail
  refine (HP2.out _).mono ?_
  rintro e p2 ⟨pa2, pn2, pc2, rfl, PO2, pb2⟩
  clear HP2
  have EP2 : Hid (ApS W base (.slice a n c) N x (.slice ba1 bn1 bc1) C1 p2) := EA.out.up pb2.out
  have HZ2 : Hid (C1.length + O2.length ≤ 140737488355328) := by have := CL.out; have := OL2.out; unfold Hid; omega
  clear EA pb2
  go_wp2_with (at_builtin; refine wpList_append_octs_at p2 rfl _ _ rfl base (.slice ba1 bn1 bc1) C1 rfl EP2.out.ob (.slice pa2 pn2 pc2) O2 rfl PO2.out HZ2.out EP2.out.hb ?_)
  intro v2 W2' ho hg ha
  obtain ⟨ba2, bn2, bc2, rfl, _⟩ := own_shape ho
  obtain ⟨C2, hC2⟩ : ∃ C', C' = C1 ++ O2 := ⟨_, rfl⟩
  rw [← hC2] at ho
  have CE2 : Hid (C2 = C1 ++ O2) := hC2
  have CL2 : Hid (C2.length ≤ 41307) := by have := CL.out; have := OL2.out; unfold Hid; rw [hC2, List.length_append]; omega
  clear CL hC2
  have CL := CL2
  clear CL2
  have EA : Hid (ApS W base (.slice a n c) N x (.slice ba2 bn2 bc2) C2 W2') := EP2.out.app ho hg (ha.imp id fun h => ⟨_, h, Nat.le_refl _⟩)
  clear ho hg ha EP2 PO2 HZ2
  go_wp2_with fail
  rw [rounds_succ]
  go_wp2_with fail
  refine (HP3.out _).mono ?_
  rintro e p3 ⟨pa3, pn3, pc3, rfl, PO3, pb3⟩
  clear HP3
  have EP3 : Hid (ApS W base (.slice a n c) N x (.slice ba2 bn2 bc2) C2 p3) := EA.out.up pb3.out
  have HZ3 : Hid (C2.length + O3.length ≤ 140737488355328) := by have := CL.out; have := OL3.out; unfold Hid; omega
  clear EA pb3
  go_wp2_with (at_builtin; refine wpList_append_octs_at p3 rfl _ _ rfl base (.slice ba2 bn2 bc2) C2 rfl EP3.out.ob (.slice pa3 pn3 pc3) O3 rfl PO3.out HZ3.out EP3.out.hb ?_)
  intro v3 W3' ho hg ha
  obtain ⟨ba3, bn3, bc3, rfl, _⟩ := own_shape ho
  obtain ⟨C3, hC3⟩ : ∃ C', C' = C2 ++ O3 := ⟨_, rfl⟩
  rw [← hC3] at ho
  have CE3 : Hid (C3 = C2 ++ O3) := hC3
  have CL3 : Hid (C3.length ≤ 41316) := by have := CL.out; have := OL3.out; unfold Hid; rw [hC3, List.length_append]; omega
  clear CL hC3
  have CL := CL3
  clear CL3
  have EA : Hid (ApS W base (.slice a n c) N x (.slice ba3 bn3 bc3) C3 W3') := EP3.out.app ho hg (ha.imp id fun h => ⟨_, h, Nat.le_refl _⟩)
  clear ho hg ha EP3 PO3 HZ3
  go_wp2_with fail
  rw [rounds_succ]
  have y2 := EA.out.bx.cells.2.2.1
  have HZ4 : Hid (C3.length + [x.kind].length ≤ 140737488355328) := by have := CL.out; unfold Hid; simp; omega
  have HK4 : Hid (∀ y ∈ [x.kind], 0 ≤ y ∧ y ≤ 255) := by unfold Hid; simp; omega
  have hkm : x.kind % 256 = x.kind := by omega
  go_wp2_with (at_builtin; refine wpList_append_lits_at W3' rfl _ _ rfl base (.slice ba3 bn3 bc3) C3 rfl EA.out.ob [x.kind] 1 _ rfl rfl rfl HK4.out HZ4.out EA.out.hb ?_)
  intro v4 W4' ho hg ha
  obtain ⟨ba4, bn4, bc4, rfl, _⟩ := own_shape ho
  obtain ⟨C4, hC4⟩ : ∃ C', C' = C3 ++ [x.kind] := ⟨_, rfl⟩
  rw [← hC4] at ho
  have CE4 : Hid (C4 = C3 ++ [x.kind]) := hC4
  have CL4 : Hid (C4.length ≤ 41317) := by have := CL.out; unfold Hid; rw [hC4, List.length_append]; simp only [List.length_cons, List.length_nil]; omega
  clear CL hC4
  have EB : Hid (ApS W base (.slice a n c) N x (.slice ba4 bn4 bc4) C4 W4') := EA.out.app ho hg ha
  clear ho hg ha EA y2 HZ4 HK4 hkm
  have y0 := EB.out.bx.cells.1
  have KXE : Hid (nums (x.key.extract sN (nums x.key).length) = (nums x.key).drop sN) := nums_cut x.key sN
  have KXL : Hid ((x.key.extract sN (nums x.key).length).size ≤ 96) := by unfold Hid; rw [← nums_length, KXE.out, List.length_drop]; omega
  have HZ5 : Hid (C4.length + (x.key.extract sN (nums x.key).length).size ≤ 140737488355328) := by have := CL4.out; have := KXL.out; unfold Hid; omega
  go_wp2_with (at_builtin; refine wpList_append_str_at W4' rfl _ _ rfl base (.slice ba4 bn4 bc4) C4 rfl EB.out.ob (x.key.extract sN (nums x.key).length) rfl HZ5.out EB.out.hb ?_)
  intro v5 W5' ho hg ha
  rw [KXE.out] at ho
  obtain ⟨ba5, bn5, bc5, rfl, _⟩ := own_shape ho
  obtain ⟨C5, hC5⟩ : ∃ C', C' = C4 ++ (nums x.key).drop sN := ⟨_, rfl⟩
  rw [← hC5] at ho
  have CE5 : Hid (C5 = C4 ++ (nums x.key).drop sN) := hC5
  have CL5 : Hid (C5.length ≤ 41413) := by have := CL4.out; unfold Hid; rw [hC5, List.length_append]; rw [List.length_drop]; omega
  clear CL4 hC5
  have EC : Hid (ApS W base (.slice a n c) N x (.slice ba5 bn5 bc5) C5 W5') := EB.out.app ho hg ha
  clear ho hg ha EB y0 HZ5
  have y3 := EC.out.bx.cells.2.2.2
  have HZ6 : Hid (C5.length + x.val.size ≤ 140737488355328) := by have := CL5.out; unfold Hid; omega
  go_wp2_with (at_builtin; refine wpList_append_str_at W5' rfl _ _ rfl base (.slice ba5 bn5 bc5) C5 rfl EC.out.ob x.val rfl HZ6.out EC.out.hb ?_)
  intro v6 W6' ho hg ha
  obtain ⟨ba6, bn6, bc6, rfl, _⟩ := own_shape ho
  have ED : Hid (ApS W base (.slice a n c) N x (.slice ba6 bn6 bc6) (C5 ++ nums x.val) W6') := EC.out.app ho hg ha
  have HF : Hid (C5 ++ nums x.val = L ++ entO sN x) := by
    unfold Hid
    rw [HEQ.out, CE5.out, CE4.out, CE3.out, CE2.out, CE1.out, CE0.out]
    simp only [List.append_assoc, List.cons_append, List.nil_append]
  clear ho hg ha EC y3 HZ6
  go_wp2_with fail
  go_ret
  refine ⟨ba6, bn6, bc6, rfl, ?_, ED.out.gr, ?_⟩
  · rw [← HF.out]; exact ED.out.ob
  · have := ED.out.pl
    exact this
end Go.Proofs.YthiegmhplnbdlaaGreat

namespace Go.Proofs.YthiegmhplnbdlaaGreat
open Go.RowKit SumPlain
set_option linter.unusedVariables false
set_option linter.unusedSimpArgs false
structure AppE (W : World) (base : Nat) (v0 : Value) (v : Value) (L : List Int) (W' : World) : Prop where
  ob : OwnB W' base v L
  gr : W.grownBy W' v0.ownBlock
  pl : v.ownBlock = v0.ownBlock ∨ ∃ g, v.ownBlock = some g ∧ W.heap.size ≤ g
  hb : base ≤ W'.heap.size
theorem AppE.start {W : World} {base : Nat} {v : Value} {L : List Int} (h : OwnB W base v L) (hb : base ≤ W.heap.size) : AppE W base v v L W := ⟨h, grown_refl W _, .inl rfl, hb⟩
theorem AppE.up {W : World} {base : Nat} {v0 v : Value} {L : List Int} {W' W2 : World} (h : AppE W base v0 v L W') (hb : Below W'.heap.size W' W2) : AppE W base v0 v L W2 :=
  ⟨own_up h.ob hb, grown_trans h.gr (grown_up hb _), h.pl, Nat.le_trans h.hb hb.size⟩
theorem AppE.app {W : World} {base : Nat} {v0 v v' : Value} {L L' : List Int} {W' W2 : World} (h : AppE W base v0 v L W') (ho : OwnB W2 base v' L') (hg : W'.grownBy W2 v.ownBlock) (ha : v'.ownBlock = v.ownBlock ∨ ∃ g, v'.ownBlock = some g ∧ W'.heap.size ≤ g) : AppE W base v0 v' L' W2 := by
  have hs : W.heap.size ≤ W'.heap.size := h.gr.size
  refine ⟨ho, ?_, ?_, Nat.le_trans h.hb hg.size⟩
  · rcases h.pl with q | ⟨g, q, hq⟩
    · rw [q] at hg; exact grown_trans h.gr hg
    · rw [q] at hg; exact grown_new h.gr hg hq
  · rcases ha with q | ⟨g, q, hq⟩
    · rw [q]; exact h.pl
    · exact .inr ⟨g, q, by omega⟩
theorem AppE.then {W : World} {base : Nat} {v0 v v' : Value} {L L' : List Int} {W' W2 : World} (h : AppE W base v0 v L W') (k : AppE W' base v v' L' W2) : AppE W base v0 v' L' W2 := h.app k.ob k.gr k.pl
set_option maxHeartbeats 2000000 in
set_option maxRecDepth 100000 in
theorem row_any (size : Nat) (key : ByteArray) (base : Nat) (a : Option Addr) (n c : Nat) (L : List Int) (W : World) (ho : OwnB W base (.slice a n c) L) (hb : base ≤ W.heap.size) (hs : size ≤ 1000000) (hk : key.size ≤ 1000000) (hL : L.length ≤ 1000000000) :
    Calls Tryz.prog 65 #[.slice a n c, .int .i64 size, .string key] W fun e w' => ∃ a' n' c', e = .returned (.slice a' n' c') ∧ Hid (AppE W base (.slice a n c) (.slice a' n' c') (L ++ (octets (size : Int) ++ (octets ((nums key).length : Int) ++ nums key))) w') := by
  have hks : key.size = (nums key).length := (nums_length _).symm
  have HP0 := hid (putO (size : Int) (by omega) (by omega))
  have HP1 := hid (putO ((nums key).length : Int) (by omega) (by omega))
  have OL0 : Hid ((octets (size : Int)).length ≤ 9) := (octets_len _ (by omega) (by omega)).2
  have OL1 : Hid ((octets ((nums key).length : Int)).length ≤ 9) := (octets_len _ (by omega) (by omega)).2
  have A0 : Hid (AppE W base (.slice a n c) (.slice a n c) L W) := AppE.start ho hb
  have CL : Hid (L.length ≤ 1000000000) := hL
  have HK : Hid (key.size ≤ 1000000) := hk
  generalize octets (size : Int) = O0 at *
  generalize octets ((nums key).length : Int) = O1 at *
  clear ho hb hL
  go_enter Tryz.func65, Tryz.ntmps65
  go_wp2_with fail
  refine (HP0.out _).mono ?_
  rintro e p0 ⟨pa0, pn0, pc0, rfl, PO0, pb0⟩
  have A1 : Hid (AppE W base (.slice a n c) (.slice a n c) L p0) := A0.out.up pb0.out
  have HZ0 : Hid (L.length + O0.length ≤ 140737488355328) := by have := CL.out; have := OL0.out; unfold Hid; omega
  clear HP0 A0 pb0
  go_wp2_with (at_builtin; refine wpList_append_octs_at p0 rfl _ _ rfl base (.slice a n c) L rfl A1.out.ob (.slice pa0 pn0 pc0) O0 rfl PO0.out HZ0.out A1.out.hb ?_)
  intro v0 W0' ho hg ha
  obtain ⟨ba0, bn0, bc0, rfl, _⟩ := own_shape ho
  obtain ⟨C0, hC0⟩ : ∃ C', C' = L ++ O0 := ⟨_, rfl⟩
  rw [← hC0] at ho
  have CE0 : Hid (C0 = L ++ O0) := hC0
  have CL0 : Hid (C0.length ≤ 1000000009) := by have := CL.out; have := OL0.out; unfold Hid; rw [hC0, List.length_append]; omega
  have A2 : Hid (AppE W base (.slice a n c) (.slice ba0 bn0 bc0) C0 W0') := A1.out.app ho hg (ha.imp id fun h => ⟨_, h, Nat.le_refl _⟩)
  clear ho hg ha A1 PO0 HZ0 hC0 CL
  go_wp2_with fail
  refine (HP1.out _).mono ?_
  rintro e p1 ⟨pa1, pn1, pc1, rfl, PO1, pb1⟩
  have A3 : Hid (AppE W base (.slice a n c) (.slice ba0 bn0 bc0) C0 p1) := A2.out.up pb1.out
  have HZ1 : Hid (C0.length + O1.length ≤ 140737488355328) := by have := CL0.out; have := OL1.out; unfold Hid; omega
  clear HP1 A2 pb1
  go_wp2_with (at_builtin; refine wpList_append_octs_at p1 rfl _ _ rfl base (.slice ba0 bn0 bc0) C0 rfl A3.out.ob (.slice pa1 pn1 pc1) O1 rfl PO1.out HZ1.out A3.out.hb ?_)
  intro v1 W1' ho hg ha
  obtain ⟨ba1, bn1, bc1, rfl, _⟩ := own_shape ho
  obtain ⟨C1, hC1⟩ : ∃ C', C' = C0 ++ O1 := ⟨_, rfl⟩
  rw [← hC1] at ho
  have CE1 : Hid (C1 = C0 ++ O1) := hC1
  have A4 : Hid (AppE W base (.slice a n c) (.slice ba1 bn1 bc1) C1 W1') := A3.out.app ho hg (ha.imp id fun h => ⟨_, h, Nat.le_refl _⟩)
  have HZ2 : Hid (C1.length + key.size ≤ 140737488355328) := by have := CL0.out; have := OL1.out; have := HK.out; unfold Hid; rw [hC1, List.length_append]; omega
  clear ho hg ha A3 PO1 HZ1 hC1 CL0
  go_wp2_with (at_builtin; refine wpList_append_str_at W1' rfl _ _ rfl base (.slice ba1 bn1 bc1) C1 rfl A4.out.ob key rfl HZ2.out A4.out.hb ?_)
  intro v2 W2' ho hg ha
  obtain ⟨ba2, bn2, bc2, rfl, _⟩ := own_shape ho
  have A5 := hid (A4.out.app ho hg ha)
  have HE : Hid (L ++ (O0 ++ (O1 ++ nums key)) = C1 ++ nums key) := by unfold Hid; rw [CE1.out, CE0.out]; simp
  clear ho hg ha A4
  go_wp2_with fail
  go_ret
  refine ⟨_, _, _, rfl, ?_⟩
  rw [HE.out]
  exact A5.out
set_option maxHeartbeats 2000000 in
set_option maxRecDepth 100000 in
theorem rec_any (k : Int) (D : List Int) (da : Option Addr) (dn dc : Nat) (base : Nat) (a : Option Addr) (n c : Nat) (L : List Int) (W : World) (ho : OwnB W base (.slice a n c) L) (hb : base ≤ W.heap.size) (k0 : 0 ≤ k) (k1 : k ≤ 255) (hn : dn = D.length) (hd : Octs W (.slice da dn dc) D) (hD : D.length ≤ 65536) (hL : L.length ≤ 1000000000) :
    Calls Tryz.prog 66 #[.slice a n c, .int .i64 k, .slice da dn dc] W fun e w' => ∃ a' n' c', e = .returned (.slice a' n' c') ∧ Hid (AppE W base (.slice a n c) (.slice a' n' c') (L ++ frameOf k D) w') := by
  have HF : Hid (Calls Tryz.prog 24 #[.agg #[.int .i64 k, .slice da dn dc]] W fun e w' => ∃ a' n' c', e = .returned (.tuple #[.slice a' n' c', .int .i64 0]) ∧ Hid (Octs w' (.slice a' n' c') (frameOf k D)) ∧ Hid (Below W.heap.size W w')) := by
    subst hn
    refine (fput_good k da dc D W hd k0 k1 hD).mono ?_
    rintro e w' ⟨v', rfl, h1, h2⟩
    obtain ⟨a', n', c', rfl, _⟩ := own_shape h1
    exact ⟨a', n', c', rfl, Octs.own h1 (frame_oct k D ⟨k0, k1⟩ hd.1 hD), h2⟩
  have HFL : Hid ((frameOf k D).length ≤ 70000) := by
    unfold Hid
    rw [frame_len]
    have := octets_len ((D.length : Nat) : Int) (by omega) (by omega)
    omega
  have A0 : Hid (AppE W base (.slice a n c) (.slice a n c) L W) := AppE.start ho hb
  have CL : Hid (L.length ≤ 1000000000) := hL
  clear ho hb hL hd hD hn k0 k1
  generalize frameOf k D = FD at *
  go_enter Tryz.func66, Tryz.ntmps66
  go_wp2_with fail
  refine HF.out.mono ?_
  rintro e p0 ⟨pa0, pn0, pc0, rfl, PO0, pb0⟩
  have A1 : Hid (AppE W base (.slice a n c) (.slice a n c) L p0) := A0.out.up pb0.out
  have HZ0 : Hid (L.length + FD.length ≤ 140737488355328) := by have := CL.out; have := HFL.out; unfold Hid; omega
  clear HF A0 pb0
  go_wp2_with (at_builtin; refine wpList_append_octs_at p0 rfl _ _ rfl base (.slice a n c) L rfl A1.out.ob (.slice pa0 pn0 pc0) FD rfl PO0.out HZ0.out A1.out.hb ?_)
  intro v0 W0' ho hg ha
  obtain ⟨ba0, bn0, bc0, rfl, _⟩ := own_shape ho
  have A2 := hid (A1.out.app ho hg (ha.imp id fun h => ⟨_, h, Nat.le_refl _⟩))
  clear ho hg ha A1
  go_wp2_with fail
  go_ret
  exact ⟨_, _, _, rfl, A2.out⟩
end Go.Proofs.YthiegmhplnbdlaaGreat

namespace Go.Proofs.YthiegmhplnbdlaaGreat
open Go.RowKit Go.Shelf
set_option linter.unusedVariables false
set_option linter.unusedSimpArgs false
set_option maxRecDepth 20000
attribute [local go_sem] Oper.semAt_some
theorem cut_any (a : Option Addr) (n c : Nat) (w : World) : Calls Tryz.prog 62 #[.slice a n c] w fun e w' => e = .returned (.func (.func 89) #[] #[.pointer (some ⟨w.heap.size, 0, none⟩)]) ∧ w' = w.alloc (.cells #[.slice a n c] 42) := by
  go_enter Tryz.func62, Tryz.ntmps62
  go_wp2
  go_ret
  exact ⟨rfl, rfl⟩
def partV (b off n c p : Nat) : Value := .slice (some ⟨b, off + p * 4, none⟩) (min (p + 16) n - p) (c - p)
set_option maxHeartbeats 2000000 in
theorem cut_in (m lp Bf : Nat) (b off n c : Nat) (hnc : n ≤ c) (hmx : n ≤ 4398046511104) (J : Nat → World → Prop) (D : World → Prop) (W : World)
    (hY : ∀ (i : Nat) (W0 : World), 16 * i < n → J i W0 → YieldAt Fence.wide (m - 1) Tryz.prog lp #[.int .i64 ((16 * i : Nat) : Int), partV b off n c (16 * i)] W0 fun e W' => (e = .returned (.bool true) ∧ J (i + 1) W') ∨ (e = .returned (.bool false) ∧ D W'))
    (hK : ∀ i W', J i W' → W'.cell? ⟨Bf, 0, none⟩ = some (.slice (some ⟨b, off, none⟩) n c))
    (hJ : J 0 W) :
    CallsIn Fence.wide m Tryz.prog 89 #[.func (.yield lp) #[] #[], .pointer (some ⟨Bf, 0, none⟩)] W fun e W' => (∃ v, e = .returned v) ∧ (J ((n + 15) / 16) W' ∨ D W') := by
  refine callsIn_of_wp Tryz.func89 rfl trivial ?_ rfl
  simp only [Tryz.ntmps89, List.size_toArray, List.length_cons, List.length_nil, Nat.reduceAdd, Nat.reduceSub, Array.replicate_succ, Array.replicate_zero, List.push_toArray, List.append_toArray, List.nil_append, List.cons_append]
  have k0 := hK 0 W hJ
  gi_wp2
  gi_loopw [3] (fun p wr => ∃ (i q : Nat), q = 16 * i ∧ p = .int .i64 (q : Int) ∧ q < n + 16 ∧ Hid (J i wr)) (fun p wr => n + 16 - (intOf p).toNat)
  case atStart => exact ⟨0, 0, rfl, rfl, by omega, hJ⟩
  case round =>
    obtain ⟨i, q, hq, rfl, hi, hj⟩ := hrel
    clear k0
    have k0 := hK i wr hj.out
    by_cases hlt : q < n
    · have hlt' : (q : Int) < (n : Int) := by omega
      have Y : Hid (YieldAt Fence.wide (m - 1) Tryz.prog lp #[.int .i64 (q : Int), partV b off n c q] wr fun e W' => (e = .returned (.bool true) ∧ J (i + 1) W') ∨ (e = .returned (.bool false) ∧ D W')) := by
        rw [hq] at hlt ⊢
        exact hY i wr hlt hj.out
      have HQ : Hid (q = 16 * i) := hq
      clear hY hK hq
      unfold partV at Y
      obtain ⟨r, hr⟩ : ∃ r, r = min (q + 16) n := ⟨_, rfl⟩
      rw [← hr] at Y
      have e1 : (if (n : Int) < (q : Int) + 16 then (n : Int) else (q : Int) + 16) = (r : Int) := by
        rw [hr]
        split <;> omega
      have r1 : q ≤ r := by omega
      have r2 : r ≤ n := by omega
      have r3 : r ≤ c := by omega
      have hw1 : IntKind.i64.wrap ((q : Int) + 16) = (q : Int) + 16 := by rw [IntKind.wrap_i64]; omega
      have hcq : ¬ c = q := by omega
      clear hr
      obtain ⟨fn, tmps, asg, bod, hy, hR⟩ := Y.out
      clear Y
      gi_wp2
      refine ⟨fun h => (by cases h), hR.mono ?_⟩
      rintro e W3 (⟨rfl, hJ3⟩ | ⟨rfl, hD3⟩)
      · have HJ3 : Hid (J (i + 1) W3) := hJ3
        clear hJ3
        gi_wp2
        have := HQ.out
        exact ⟨⟨i + 1, q + 16, by omega, by simp, by omega, HJ3⟩, by simp [intOf]; omega⟩
      · have HD3 : Hid (D W3) := hD3
        clear hD3
        gi_wp2
        refine bodyPost_ret (results_none rfl _ _ _) rfl ?_
        exact ⟨⟨_, rfl⟩, .inr HD3.out⟩
    · have hlt' : ¬ (q : Int) < (n : Int) := by omega
      obtain rfl : i = (n + 15) / 16 := by omega
      clear hY hK
      gi_wp2
      go_end0
      exact ⟨⟨_, rfl⟩, .inl hj.out⟩
end Go.Proofs.YthiegmhplnbdlaaGreat
