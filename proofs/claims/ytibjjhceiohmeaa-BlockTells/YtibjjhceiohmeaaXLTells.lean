/- BlockTells walked upon what is wanted of the program. -/
import Derived.Test.YtibjjhceiohmeaaXLaw
namespace Go.Proofs.Ytibjjhceiohmeaa
open Go.RowKit SumPlain
set_option linter.unusedVariables false
set_option linter.unusedSimpArgs false

theorem sameE_law (l : List En) (v u : Value) (W : World) (hv : EntsR W v l) (hu : EntsR W u l) : Calls Try.prog 19 #[v, u] W fun e w' => e = .returned (.bool true) ∧ Hid (Below W.heap.size W w') := by
  refine (sameEnts_self l v u W hv hu).mono ?_
  rintro e w' ⟨rfl, d, rfl⟩
  exact ⟨rfl, up_drewN _ d⟩

theorem sameB_up (l : List Int) (v u : Value) (W : World) (hv : Octs W v l) (hu : Octs W u l) : Calls Try.prog 17 #[v, u] W fun e w' => e = .returned (.bool true) ∧ Hid (Below W.heap.size W w') := by
  refine (sameB_law l v u W hv hu).mono ?_
  rintro e w' ⟨rfl, rfl⟩
  exact ⟨rfl, Below.refl _ _⟩

set_option maxHeartbeats 8000000 in
theorem tells_walk (P : Pg) (l : List En) (B : List Int) (key : ByteArray) (seq : Int) (vl vb : Value) (w : World) (hl : EntsR w vl l) (hb : Octs w vb B) (hll : l.length ≤ 4398046511104) (hbl : B.length ≤ 140737488351232) :
    Calls Try.prog 3 #[vl, vb, .string key, .int .i64 seq] w fun e w' => e = .returned (.bool true) ∧ Below w.heap.size w w' := by
  have EL : Hid (EntsR w vl l) := hl
  have OB : Hid (Octs w vb B) := hb
  have UU : Hid (Below w.heap.size w w) := Below.refl _ _
  have HP : Hid Pg := P
  have HLL : Hid (l.length ≤ 4398046511104) := hll
  have HBL : Hid (B.length ≤ 140737488351232) := hbl
  have HOC : Hid (OctL B) := hb.1
  have HN : Hid (∀ (x : Int) (W : World), Calls Try.prog 18 #[.int .i64 x] W fun e w' => e = .returned (.int .i64 x) ∧ w' = W) := num_any
  clear hl hb hll hbl P
  have HE : Hid (∀ (v : Value) (W : World), EntsR W v l → Calls Try.prog 11 #[v] W fun e w' => ∃ a n c, e = .returned (.tuple #[.slice a n c, .int .i64 (encB l).2]) ∧ Hid (Octs w' (.slice a n c) (encB l).1) ∧ Hid (Below W.heap.size W w')) := by
    intro v W h
    refine (HP.out.enc l v W h).mono ?_
    rintro e' w' ⟨a, n, c, rfl, _, h5, h6⟩
    exact ⟨a, n, c, rfl, Octs.own h5.out (encB_oct l), h6⟩
  have HRE : Hid (∀ (v : Value) (W : World), EntsR W v l → Calls Try.prog 12 #[v] W fun e w' => ∃ a n c, e = .returned (.tuple #[.slice a n c, .int .i64 (encB l).2]) ∧ Hid (Octs w' (.slice a n c) (encB l).1) ∧ Hid (Below W.heap.size W w')) := by
    intro v W h
    refine (refEncB_any l v W h).mono ?_
    rintro e' w' ⟨v', rfl, h5, h6⟩
    obtain ⟨a, n, c, rfl, _⟩ := own_shape h5
    exact ⟨a, n, c, rfl, Octs.own h5 (encB_oct l), h6⟩
  have HD : Hid (∀ (v : Value) (W : World), Octs W v B → Calls Try.prog 13 #[v] W fun e w' => ∃ a n c, e = .returned (.tuple #[.slice a n c, .int .i64 (decB B).2]) ∧ Hid (EntsR w' (.slice a n c) (decB B).1) ∧ Hid (Below W.heap.size W w')) := by
    intro v W h
    refine (HP.out.dec B v W h HBL.out).mono ?_
    rintro e' w' ⟨a, n, c, rfl, hn, h5, h6⟩
    exact ⟨a, n, c, rfl, Rws.own h5.out, h6⟩
  have HRD : Hid (∀ (v : Value) (W : World), Octs W v B → Calls Try.prog 14 #[v] W fun e w' => ∃ a n c, e = .returned (.tuple #[.slice a n c, .int .i64 (decB B).2]) ∧ Hid (EntsR w' (.slice a n c) (decB B).1) ∧ Hid (Below W.heap.size W w')) := by
    intro v W h
    refine (refDecB_any B v W h HBL.out).mono ?_
    rintro e' w' ⟨a, n, c, rfl, h5, h6⟩
    exact ⟨a, n, c, rfl, Rws.own h5.out.2, h6⟩
  have HS : Hid (∀ (v : Value) (W : World), Octs W v B → Calls Try.prog 15 #[v, .string key, .int .i64 seq] W fun e w' => e = .returned (.tuple #[.agg #[.string (seekB B key seq).1.key, .int .i64 (seekB B key seq).1.seq, .int .i64 (seekB B key seq).1.kind, .string (seekB B key seq).1.val], .bool (seekB B key seq).2.1, .int .i64 (seekB B key seq).2.2]) ∧ Hid (Below W.heap.size W w')) := fun v W h => HP.out.seek B v key seq W h HBL.out
  have HRS : Hid (∀ (v : Value) (W : World), Octs W v B → Calls Try.prog 16 #[v, .string key, .int .i64 seq] W fun e w' => e = .returned (.tuple #[.agg #[.string (seekB B key seq).1.key, .int .i64 (seekB B key seq).1.seq, .int .i64 (seekB B key seq).1.kind, .string (seekB B key seq).1.val], .bool (seekB B key seq).2.1, .int .i64 (seekB B key seq).2.2]) ∧ Hid (Below W.heap.size W w')) := fun v W h => refSeek_any B v key seq W h HBL.out
  have HRC : Hid (∀ (v : Value) (W : World), EntsR W v l → Calls Try.prog 21 #[v] W fun e w' => e = .returned (.int .i64 (chkB l)) ∧ Hid (Below W.heap.size W w')) := fun v W h => refCheckB_any l v W h
  have HCE : Hid (∀ (v : Value) (W : World), EntsR W v l → Calls Try.prog 9 #[v] W fun e w' => ∃ a n c, e = .returned (.slice a n c) ∧ Hid (EntsR w' (.slice a n c) l) ∧ Hid (Below W.heap.size W w')) := by
    intro v W h
    refine (copyEnts_any l v W h HLL.out).mono ?_
    rintro e' w' ⟨a, n, c, rfl, h5, h6, _⟩
    exact ⟨a, n, c, rfl, h5, h6⟩
  have HCB : Hid (∀ (v : Value) (W : World), Octs W v B → Calls Try.prog 10 #[v] W fun e w' => ∃ a n c, e = .returned (.slice a n c) ∧ Hid (Octs w' (.slice a n c) B) ∧ Hid (Below W.heap.size W w')) := by
    intro v W h
    refine (copy_any B v W h (by have := HBL.out; omega)).mono ?_
    rintro e' w' ⟨v', rfl, h5, h6⟩
    obtain ⟨a, n, c, rfl, _⟩ := own_shape h5
    exact ⟨a, n, c, rfl, Octs.own h5 HOC.out, h6⟩
  generalize (seekB B key seq).1 = x at *
  generalize (seekB B key seq).2.1 = is at *
  generalize (seekB B key seq).2.2 = i at *
  generalize (decB B).2 = f at *
  generalize (decB B).1 = L at *
  generalize (encB l).2 = g at *
  generalize (encB l).1 = E at *
  go_enter Try.func3, Try.ntmps3
  go_wp2_with fail
  refine (HCE.out _ _ EL.out).mono ?_
  rintro e w1 ⟨oa, on, oc, rfl, EO, b1⟩
  have ELx : Hid (EntsR w1 vl l) := EL.out.up b1.out
  have OBx : Hid (Octs w1 vb B) := OB.out.up b1.out
  have UUx : Hid (Below w.heap.size w w1) := up_trans UU.out b1.out
  clear EL OB UU
  have EL := ELx
  clear ELx
  have OB := OBx
  clear OBx
  have UU := UUx
  clear UUx
  clear b1
  go_wp2_with fail
  refine (HCB.out _ _ OB.out).mono ?_
  rintro e w2 ⟨ia, inn, ic, rfl, OI, b2⟩
  have ELx : Hid (EntsR w2 vl l) := EL.out.up b2.out
  have OBx : Hid (Octs w2 vb B) := OB.out.up b2.out
  have UUx : Hid (Below w.heap.size w w2) := up_trans UU.out b2.out
  have EOx : Hid (EntsR w2 (.slice oa on oc) l) := EO.out.up b2.out
  clear EL OB UU EO
  have EL := ELx
  clear ELx
  have OB := OBx
  clear OBx
  have UU := UUx
  clear UUx
  have EO := EOx
  clear EOx
  clear b2
  go_wp2_with fail
  refine (HE.out _ _ EO.out).mono ?_
  rintro e w3 ⟨pa, pn, pc, rfl, OP, b3⟩
  have ELx : Hid (EntsR w3 vl l) := EL.out.up b3.out
  have OBx : Hid (Octs w3 vb B) := OB.out.up b3.out
  have UUx : Hid (Below w.heap.size w w3) := up_trans UU.out b3.out
  have EOx : Hid (EntsR w3 (.slice oa on oc) l) := EO.out.up b3.out
  have OIx : Hid (Octs w3 (.slice ia inn ic) B) := OI.out.up b3.out
  clear EL OB UU EO OI
  have EL := ELx
  clear ELx
  have OB := OBx
  clear OBx
  have UU := UUx
  clear UUx
  have EO := EOx
  clear EOx
  have OI := OIx
  clear OIx
  clear b3
  go_wp2_with fail
  refine (HRE.out _ _ EL.out).mono ?_
  rintro e w4 ⟨qa, qn, qc, rfl, OQ, b4⟩
  have ELx : Hid (EntsR w4 vl l) := EL.out.up b4.out
  have OBx : Hid (Octs w4 vb B) := OB.out.up b4.out
  have UUx : Hid (Below w.heap.size w w4) := up_trans UU.out b4.out
  have EOx : Hid (EntsR w4 (.slice oa on oc) l) := EO.out.up b4.out
  have OIx : Hid (Octs w4 (.slice ia inn ic) B) := OI.out.up b4.out
  have OPx : Hid (Octs w4 (.slice pa pn pc) E) := OP.out.up b4.out
  clear EL OB UU EO OI OP
  have EL := ELx
  clear ELx
  have OB := OBx
  clear OBx
  have UU := UUx
  clear UUx
  have EO := EOx
  clear EOx
  have OI := OIx
  clear OIx
  have OP := OPx
  clear OPx
  clear b4
  go_wp2_with fail
  refine (HD.out _ _ OI.out).mono ?_
  rintro e w5 ⟨ua, un, uc, rfl, LU, b5⟩
  have ELx : Hid (EntsR w5 vl l) := EL.out.up b5.out
  have OBx : Hid (Octs w5 vb B) := OB.out.up b5.out
  have UUx : Hid (Below w.heap.size w w5) := up_trans UU.out b5.out
  have EOx : Hid (EntsR w5 (.slice oa on oc) l) := EO.out.up b5.out
  have OIx : Hid (Octs w5 (.slice ia inn ic) B) := OI.out.up b5.out
  have OPx : Hid (Octs w5 (.slice pa pn pc) E) := OP.out.up b5.out
  have OQx : Hid (Octs w5 (.slice qa qn qc) E) := OQ.out.up b5.out
  clear EL OB UU EO OI OP OQ
  have EL := ELx
  clear ELx
  have OB := OBx
  clear OBx
  have UU := UUx
  clear UUx
  have EO := EOx
  clear EOx
  have OI := OIx
  clear OIx
  have OP := OPx
  clear OPx
  have OQ := OQx
  clear OQx
  clear b5
  go_wp2_with fail
  refine (HRD.out _ _ OB.out).mono ?_
  rintro e w6 ⟨va, vn, vc, rfl, LV, b6⟩
  have ELx : Hid (EntsR w6 vl l) := EL.out.up b6.out
  have OBx : Hid (Octs w6 vb B) := OB.out.up b6.out
  have UUx : Hid (Below w.heap.size w w6) := up_trans UU.out b6.out
  have EOx : Hid (EntsR w6 (.slice oa on oc) l) := EO.out.up b6.out
  have OIx : Hid (Octs w6 (.slice ia inn ic) B) := OI.out.up b6.out
  have OPx : Hid (Octs w6 (.slice pa pn pc) E) := OP.out.up b6.out
  have OQx : Hid (Octs w6 (.slice qa qn qc) E) := OQ.out.up b6.out
  have LUx : Hid (EntsR w6 (.slice ua un uc) L) := LU.out.up b6.out
  clear EL OB UU EO OI OP OQ LU
  have EL := ELx
  clear ELx
  have OB := OBx
  clear OBx
  have UU := UUx
  clear UUx
  have EO := EOx
  clear EOx
  have OI := OIx
  clear OIx
  have OP := OPx
  clear OPx
  have OQ := OQx
  clear OQx
  have LU := LUx
  clear LUx
  clear b6
  go_wp2_with fail
  refine (HS.out _ _ OI.out).mono ?_
  rintro e w7 ⟨rfl, b7⟩
  have ELx : Hid (EntsR w7 vl l) := EL.out.up b7.out
  have OBx : Hid (Octs w7 vb B) := OB.out.up b7.out
  have UUx : Hid (Below w.heap.size w w7) := up_trans UU.out b7.out
  have EOx : Hid (EntsR w7 (.slice oa on oc) l) := EO.out.up b7.out
  have OIx : Hid (Octs w7 (.slice ia inn ic) B) := OI.out.up b7.out
  have OPx : Hid (Octs w7 (.slice pa pn pc) E) := OP.out.up b7.out
  have OQx : Hid (Octs w7 (.slice qa qn qc) E) := OQ.out.up b7.out
  have LUx : Hid (EntsR w7 (.slice ua un uc) L) := LU.out.up b7.out
  have LVx : Hid (EntsR w7 (.slice va vn vc) L) := LV.out.up b7.out
  clear EL OB UU EO OI OP OQ LU LV
  have EL := ELx
  clear ELx
  have OB := OBx
  clear OBx
  have UU := UUx
  clear UUx
  have EO := EOx
  clear EOx
  have OI := OIx
  clear OIx
  have OP := OPx
  clear OPx
  have OQ := OQx
  clear OQx
  have LU := LUx
  clear LUx
  have LV := LVx
  clear LVx
  clear b7
  obtain ⟨AX, hAX⟩ : ∃ A, A = w7.alloc (.cells #[.string x.key, .int .i64 x.seq, .int .i64 x.kind, .string x.val] 36) := ⟨_, rfl⟩
  have HAX : Hid (w7.alloc (.cells #[.string x.key, .int .i64 x.seq, .int .i64 x.kind, .string x.val] 36) = AX) := hAX.symm
  have UAX : Hid (Below w7.heap.size w7 AX) := by rw [hAX]; exact up_alloc _ _
  have NAX : Hid (AX.heap[w7.heap.size]? = some (.cells #[.string x.key, .int .i64 x.seq, .int .i64 x.kind, .string x.val] 36)) := by rw [hAX]; exact blk_new _ _
  clear hAX
  go_upto_region 7 with fail
  rw [HAX.out]
  clear HAX
  have ELx : Hid (EntsR AX vl l) := EL.out.up UAX.out
  have OBx : Hid (Octs AX vb B) := OB.out.up UAX.out
  have UUx : Hid (Below w.heap.size w AX) := up_trans UU.out UAX.out
  have EOx : Hid (EntsR AX (.slice oa on oc) l) := EO.out.up UAX.out
  have OIx : Hid (Octs AX (.slice ia inn ic) B) := OI.out.up UAX.out
  have OPx : Hid (Octs AX (.slice pa pn pc) E) := OP.out.up UAX.out
  have OQx : Hid (Octs AX (.slice qa qn qc) E) := OQ.out.up UAX.out
  have LUx : Hid (EntsR AX (.slice ua un uc) L) := LU.out.up UAX.out
  have LVx : Hid (EntsR AX (.slice va vn vc) L) := LV.out.up UAX.out
  clear EL OB UU EO OI OP OQ LU LV
  have EL := ELx
  clear ELx
  have OB := OBx
  clear OBx
  have UU := UUx
  clear UUx
  have EO := EOx
  clear EOx
  have OI := OIx
  clear OIx
  have OP := OPx
  clear OPx
  have OQ := OQx
  clear OQx
  have LU := LUx
  clear LUx
  have LV := LVx
  clear LVx
  clear UAX
  generalize w7.heap.size = MX at *
  have BX := NAX
  clear NAX
  go_wp2_with fail
  refine (HRS.out _ _ OB.out).mono ?_
  rintro e w8 ⟨rfl, b8⟩
  have ELx : Hid (EntsR w8 vl l) := EL.out.up b8.out
  have OBx : Hid (Octs w8 vb B) := OB.out.up b8.out
  have UUx : Hid (Below w.heap.size w w8) := up_trans UU.out b8.out
  have EOx : Hid (EntsR w8 (.slice oa on oc) l) := EO.out.up b8.out
  have OIx : Hid (Octs w8 (.slice ia inn ic) B) := OI.out.up b8.out
  have OPx : Hid (Octs w8 (.slice pa pn pc) E) := OP.out.up b8.out
  have OQx : Hid (Octs w8 (.slice qa qn qc) E) := OQ.out.up b8.out
  have LUx : Hid (EntsR w8 (.slice ua un uc) L) := LU.out.up b8.out
  have LVx : Hid (EntsR w8 (.slice va vn vc) L) := LV.out.up b8.out
  have BXx : Hid (w8.heap[MX]? = some (.cells #[.string x.key, .int .i64 x.seq, .int .i64 x.kind, .string x.val] 36)) := blk_up BX.out b8.out
  clear EL OB UU EO OI OP OQ LU LV BX
  have EL := ELx
  clear ELx
  have OB := OBx
  clear OBx
  have UU := UUx
  clear UUx
  have EO := EOx
  clear EOx
  have OI := OIx
  clear OIx
  have OP := OPx
  clear OPx
  have OQ := OQx
  clear OQx
  have LU := LUx
  clear LUx
  have LV := LVx
  clear LVx
  have BX := BXx
  clear BXx
  clear b8
  obtain ⟨AY, hAY⟩ : ∃ A, A = w8.alloc (.cells #[.string x.key, .int .i64 x.seq, .int .i64 x.kind, .string x.val] 36) := ⟨_, rfl⟩
  have HAY : Hid (w8.alloc (.cells #[.string x.key, .int .i64 x.seq, .int .i64 x.kind, .string x.val] 36) = AY) := hAY.symm
  have UAY : Hid (Below w8.heap.size w8 AY) := by rw [hAY]; exact up_alloc _ _
  have NAY : Hid (AY.heap[w8.heap.size]? = some (.cells #[.string x.key, .int .i64 x.seq, .int .i64 x.kind, .string x.val] 36)) := by rw [hAY]; exact blk_new _ _
  clear hAY
  go_upto_region 8 with fail
  rw [HAY.out]
  clear HAY
  have ELx : Hid (EntsR AY vl l) := EL.out.up UAY.out
  have OBx : Hid (Octs AY vb B) := OB.out.up UAY.out
  have UUx : Hid (Below w.heap.size w AY) := up_trans UU.out UAY.out
  have EOx : Hid (EntsR AY (.slice oa on oc) l) := EO.out.up UAY.out
  have OIx : Hid (Octs AY (.slice ia inn ic) B) := OI.out.up UAY.out
  have OPx : Hid (Octs AY (.slice pa pn pc) E) := OP.out.up UAY.out
  have OQx : Hid (Octs AY (.slice qa qn qc) E) := OQ.out.up UAY.out
  have LUx : Hid (EntsR AY (.slice ua un uc) L) := LU.out.up UAY.out
  have LVx : Hid (EntsR AY (.slice va vn vc) L) := LV.out.up UAY.out
  have BXx : Hid (AY.heap[MX]? = some (.cells #[.string x.key, .int .i64 x.seq, .int .i64 x.kind, .string x.val] 36)) := blk_up BX.out UAY.out
  clear EL OB UU EO OI OP OQ LU LV BX
  have EL := ELx
  clear ELx
  have OB := OBx
  clear OBx
  have UU := UUx
  clear UUx
  have EO := EOx
  clear EOx
  have OI := OIx
  clear OIx
  have OP := OPx
  clear OPx
  have OQ := OQx
  clear OQx
  have LU := LUx
  clear LUx
  have LV := LVx
  clear LVx
  have BX := BXx
  clear BXx
  clear UAY
  generalize w8.heap.size = MY at *
  have BY := NAY
  clear NAY
  go_wp2_with fail
  refine (sameB_up E _ _ _ OP.out OQ.out).mono ?_
  rintro e w9 ⟨rfl, b9⟩
  have ELx : Hid (EntsR w9 vl l) := EL.out.up b9.out
  have OBx : Hid (Octs w9 vb B) := OB.out.up b9.out
  have UUx : Hid (Below w.heap.size w w9) := up_trans UU.out b9.out
  have EOx : Hid (EntsR w9 (.slice oa on oc) l) := EO.out.up b9.out
  have OIx : Hid (Octs w9 (.slice ia inn ic) B) := OI.out.up b9.out
  have OPx : Hid (Octs w9 (.slice pa pn pc) E) := OP.out.up b9.out
  have OQx : Hid (Octs w9 (.slice qa qn qc) E) := OQ.out.up b9.out
  have LUx : Hid (EntsR w9 (.slice ua un uc) L) := LU.out.up b9.out
  have LVx : Hid (EntsR w9 (.slice va vn vc) L) := LV.out.up b9.out
  have BXx : Hid (w9.heap[MX]? = some (.cells #[.string x.key, .int .i64 x.seq, .int .i64 x.kind, .string x.val] 36)) := blk_up BX.out b9.out
  have BYx : Hid (w9.heap[MY]? = some (.cells #[.string x.key, .int .i64 x.seq, .int .i64 x.kind, .string x.val] 36)) := blk_up BY.out b9.out
  clear EL OB UU EO OI OP OQ LU LV BX BY
  have EL := ELx
  clear ELx
  have OB := OBx
  clear OBx
  have UU := UUx
  clear UUx
  have EO := EOx
  clear EOx
  have OI := OIx
  clear OIx
  have OP := OPx
  clear OPx
  have OQ := OQx
  clear OQx
  have LU := LUx
  clear LUx
  have LV := LVx
  clear LVx
  have BX := BXx
  clear BXx
  have BY := BYx
  clear BYx
  clear b9
  go_wp2_with fail
  refine (HN.out _ _).mono ?_
  rintro e w10 ⟨rfl, rfl⟩
  go_wp2_with fail
  refine (sameE_law L _ _ _ LU.out LV.out).mono ?_
  rintro e w11 ⟨rfl, b11⟩
  have ELx : Hid (EntsR w11 vl l) := EL.out.up b11.out
  have OBx : Hid (Octs w11 vb B) := OB.out.up b11.out
  have UUx : Hid (Below w.heap.size w w11) := up_trans UU.out b11.out
  have EOx : Hid (EntsR w11 (.slice oa on oc) l) := EO.out.up b11.out
  have OIx : Hid (Octs w11 (.slice ia inn ic) B) := OI.out.up b11.out
  have OPx : Hid (Octs w11 (.slice pa pn pc) E) := OP.out.up b11.out
  have OQx : Hid (Octs w11 (.slice qa qn qc) E) := OQ.out.up b11.out
  have LUx : Hid (EntsR w11 (.slice ua un uc) L) := LU.out.up b11.out
  have LVx : Hid (EntsR w11 (.slice va vn vc) L) := LV.out.up b11.out
  have BXx : Hid (w11.heap[MX]? = some (.cells #[.string x.key, .int .i64 x.seq, .int .i64 x.kind, .string x.val] 36)) := blk_up BX.out b11.out
  have BYx : Hid (w11.heap[MY]? = some (.cells #[.string x.key, .int .i64 x.seq, .int .i64 x.kind, .string x.val] 36)) := blk_up BY.out b11.out
  clear EL OB UU EO OI OP OQ LU LV BX BY
  have EL := ELx
  clear ELx
  have OB := OBx
  clear OBx
  have UU := UUx
  clear UUx
  have EO := EOx
  clear EOx
  have OI := OIx
  clear OIx
  have OP := OPx
  clear OPx
  have OQ := OQx
  clear OQx
  have LU := LUx
  clear LUx
  have LV := LVx
  clear LVx
  have BX := BXx
  clear BXx
  have BY := BYx
  clear BYx
  clear b11
  go_wp2_with fail
  refine (HN.out _ _).mono ?_
  rintro e w12 ⟨rfl, rfl⟩
  have cX0 := blk_cell BX.out 0 _ rfl
  have cX1 := blk_cell BX.out 1 _ rfl
  have cX2 := blk_cell BX.out 2 _ rfl
  have cX3 := blk_cell BX.out 3 _ rfl
  have cY0 := blk_cell BY.out 0 _ rfl
  have cY1 := blk_cell BY.out 1 _ rfl
  have cY2 := blk_cell BY.out 2 _ rfl
  have cY3 := blk_cell BY.out 3 _ rfl
  go_wp2_with fail
  refine (HN.out _ _).mono ?_
  rintro e w13 ⟨rfl, rfl⟩
  clear cX0 cX1 cX2 cX3 cY0 cY1 cY2 cY3
  clear BX
  clear BY
  go_wp2_with fail
  refine (HP.out.chk l _ _ EO.out).mono ?_
  rintro e w14 ⟨rfl, b14⟩
  have ELx : Hid (EntsR w14 vl l) := EL.out.up b14.out
  have OBx : Hid (Octs w14 vb B) := OB.out.up b14.out
  have UUx : Hid (Below w.heap.size w w14) := up_trans UU.out b14.out
  have EOx : Hid (EntsR w14 (.slice oa on oc) l) := EO.out.up b14.out
  have OIx : Hid (Octs w14 (.slice ia inn ic) B) := OI.out.up b14.out
  have OPx : Hid (Octs w14 (.slice pa pn pc) E) := OP.out.up b14.out
  have OQx : Hid (Octs w14 (.slice qa qn qc) E) := OQ.out.up b14.out
  have LUx : Hid (EntsR w14 (.slice ua un uc) L) := LU.out.up b14.out
  have LVx : Hid (EntsR w14 (.slice va vn vc) L) := LV.out.up b14.out
  clear EL OB UU EO OI OP OQ LU LV
  have EL := ELx
  clear ELx
  have OB := OBx
  clear OBx
  have UU := UUx
  clear UUx
  have EO := EOx
  clear EOx
  have OI := OIx
  clear OIx
  have OP := OPx
  clear OPx
  have OQ := OQx
  clear OQx
  have LU := LUx
  clear LUx
  have LV := LVx
  clear LVx
  clear b14
  go_wp2_with fail
  refine (HN.out _ _).mono ?_
  rintro e w15 ⟨rfl, rfl⟩
  go_wp2_with fail
  refine (HRC.out _ _ EL.out).mono ?_
  rintro e w16 ⟨rfl, b16⟩
  have ELx : Hid (EntsR w16 vl l) := EL.out.up b16.out
  have OBx : Hid (Octs w16 vb B) := OB.out.up b16.out
  have UUx : Hid (Below w.heap.size w w16) := up_trans UU.out b16.out
  have EOx : Hid (EntsR w16 (.slice oa on oc) l) := EO.out.up b16.out
  have OIx : Hid (Octs w16 (.slice ia inn ic) B) := OI.out.up b16.out
  have OPx : Hid (Octs w16 (.slice pa pn pc) E) := OP.out.up b16.out
  have OQx : Hid (Octs w16 (.slice qa qn qc) E) := OQ.out.up b16.out
  have LUx : Hid (EntsR w16 (.slice ua un uc) L) := LU.out.up b16.out
  have LVx : Hid (EntsR w16 (.slice va vn vc) L) := LV.out.up b16.out
  clear EL OB UU EO OI OP OQ LU LV
  have EL := ELx
  clear ELx
  have OB := OBx
  clear OBx
  have UU := UUx
  clear UUx
  have EO := EOx
  clear EOx
  have OI := OIx
  clear OIx
  have OP := OPx
  clear OPx
  have OQ := OQx
  clear OQx
  have LU := LUx
  clear LUx
  have LV := LVx
  clear LVx
  clear b16
  go_wp2_with fail
  refine (sameE_law l _ _ _ EO.out EL.out).mono ?_
  rintro e w17 ⟨rfl, b17⟩
  have ELx : Hid (EntsR w17 vl l) := EL.out.up b17.out
  have OBx : Hid (Octs w17 vb B) := OB.out.up b17.out
  have UUx : Hid (Below w.heap.size w w17) := up_trans UU.out b17.out
  have EOx : Hid (EntsR w17 (.slice oa on oc) l) := EO.out.up b17.out
  have OIx : Hid (Octs w17 (.slice ia inn ic) B) := OI.out.up b17.out
  have OPx : Hid (Octs w17 (.slice pa pn pc) E) := OP.out.up b17.out
  have OQx : Hid (Octs w17 (.slice qa qn qc) E) := OQ.out.up b17.out
  have LUx : Hid (EntsR w17 (.slice ua un uc) L) := LU.out.up b17.out
  have LVx : Hid (EntsR w17 (.slice va vn vc) L) := LV.out.up b17.out
  clear EL OB UU EO OI OP OQ LU LV
  have EL := ELx
  clear ELx
  have OB := OBx
  clear OBx
  have UU := UUx
  clear UUx
  have EO := EOx
  clear EOx
  have OI := OIx
  clear OIx
  have OP := OPx
  clear OPx
  have OQ := OQx
  clear OQx
  have LU := LUx
  clear LUx
  have LV := LVx
  clear LVx
  clear b17
  go_wp2_with fail
  refine (sameB_up B _ _ _ OI.out OB.out).mono ?_
  rintro e w18 ⟨rfl, b18⟩
  have ELx : Hid (EntsR w18 vl l) := EL.out.up b18.out
  have OBx : Hid (Octs w18 vb B) := OB.out.up b18.out
  have UUx : Hid (Below w.heap.size w w18) := up_trans UU.out b18.out
  have EOx : Hid (EntsR w18 (.slice oa on oc) l) := EO.out.up b18.out
  have OIx : Hid (Octs w18 (.slice ia inn ic) B) := OI.out.up b18.out
  have OPx : Hid (Octs w18 (.slice pa pn pc) E) := OP.out.up b18.out
  have OQx : Hid (Octs w18 (.slice qa qn qc) E) := OQ.out.up b18.out
  have LUx : Hid (EntsR w18 (.slice ua un uc) L) := LU.out.up b18.out
  have LVx : Hid (EntsR w18 (.slice va vn vc) L) := LV.out.up b18.out
  clear EL OB UU EO OI OP OQ LU LV
  have EL := ELx
  clear ELx
  have OB := OBx
  clear OBx
  have UU := UUx
  clear UUx
  have EO := EOx
  clear EOx
  have OI := OIx
  clear OIx
  have OP := OPx
  clear OPx
  have OQ := OQx
  clear OQx
  have LU := LUx
  clear LUx
  have LV := LVx
  clear LVx
  clear b18
  go_wp2_with fail
  refine (HP.out.alive _).mono ?_
  rintro e w19 ⟨rfl, b19⟩
  have ELx : Hid (EntsR w19 vl l) := EL.out.up b19.out
  have OBx : Hid (Octs w19 vb B) := OB.out.up b19.out
  have UUx : Hid (Below w.heap.size w w19) := up_trans UU.out b19.out
  have EOx : Hid (EntsR w19 (.slice oa on oc) l) := EO.out.up b19.out
  have OIx : Hid (Octs w19 (.slice ia inn ic) B) := OI.out.up b19.out
  have OPx : Hid (Octs w19 (.slice pa pn pc) E) := OP.out.up b19.out
  have OQx : Hid (Octs w19 (.slice qa qn qc) E) := OQ.out.up b19.out
  have LUx : Hid (EntsR w19 (.slice ua un uc) L) := LU.out.up b19.out
  have LVx : Hid (EntsR w19 (.slice va vn vc) L) := LV.out.up b19.out
  clear EL OB UU EO OI OP OQ LU LV
  have EL := ELx
  clear ELx
  have OB := OBx
  clear OBx
  have UU := UUx
  clear UUx
  have EO := EOx
  clear EOx
  have OI := OIx
  clear OIx
  have OP := OPx
  clear OPx
  have OQ := OQx
  clear OQx
  have LU := LUx
  clear LUx
  have LV := LVx
  clear LVx
  clear b19
  go_wp2
  go_ret
  exact ⟨rfl, UU.out⟩
end Go.Proofs.Ytibjjhceiohmeaa
