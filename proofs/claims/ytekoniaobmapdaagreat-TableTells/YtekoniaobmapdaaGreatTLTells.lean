/- TableTells walked upon what is wanted of the program. -/
import Derived.Test.YtekoniaobmapdaaGreatG33
namespace Go.Proofs.YtekoniaobmapdaaGreat
open Go.RowKit SumPlain
set_option linter.unusedVariables false
set_option linter.unusedSimpArgs false

theorem sameE_law (l : List En) (v u : Value) (W : World) (hv : EntsR W v l) (hu : EntsR W u l) : Calls Tryz.prog 15 #[v, u] W fun e w' => e = .returned (.bool true) ∧ Hid (Below W.heap.size W w') := by
  refine (sameEnts_self l v u W hv hu).mono ?_
  rintro e w' ⟨rfl, d, rfl⟩
  exact ⟨rfl, up_drewN _ d⟩
theorem sameB_up (l : List Int) (v u : Value) (W : World) (hv : Octs W v l) (hu : Octs W u l) : Calls Tryz.prog 12 #[v, u] W fun e w' => e = .returned (.bool true) ∧ Hid (Below W.heap.size W w') := by
  refine (sameB_law l v u W hv hu).mono ?_
  rintro e w' ⟨rfl, rfl⟩
  exact ⟨rfl, Below.refl _ _⟩
theorem open_oct (b : List Int) : ∀ x ∈ (openB b).2.1.2, 0 ≤ x ∧ x ≤ 255 := by
  by_cases h : (openB b).2.2 = 0
  · rw [(open_build h).2]
    exact (fil_may (buildB_zero.1 (by rw [(open_build h).1]))).2.2.1
  · rw [(open_bad h).2]
    intro x hx
    cases hx

set_option maxHeartbeats 8000000 in
set_option maxRecDepth 100000 in
theorem tells_walk (P : PgT) (l : List En) (B : List Int) (key : ByteArray) (seq : Int) (vl : Value) (ba : Option Addr) (bn bc : Nat) (w : World) (hl : EntsR w vl l) (hbn : bn = B.length) (hb : Octs w (.slice ba bn bc) B) (hll : l.length ≤ 4398046511104) (hbl : bn ≤ 140737488351232) :
    Calls Tryz.prog 3 #[vl, .slice ba bn bc, .string key, .int .i64 seq] w fun e w' => e = .returned (.bool true) ∧ Below w.heap.size w w' := by
  have EL : Hid (EntsR w vl l) := hl
  have OB : Hid (Octs w (.slice ba bn bc) B) := hb
  have UU : Hid (Below w.heap.size w w) := Below.refl _ _
  have HP : Hid PgT := P
  have HOC : Hid (OctL B) := hb.1
  have HN : Hid (∀ (x : Int) (W : World), Calls Tryz.prog 13 #[.int .i64 x] W fun e w' => e = .returned (.int .i64 x) ∧ w' = W) := num_any
  have HE : Hid (∀ (v : Value) (W : World), EntsR W v l → Calls Tryz.prog 6 #[v] W fun e w' => ∃ a n c, e = .returned (.tuple #[.slice a n c, .int .i64 (buildB l).2]) ∧ Hid (Octs w' (.slice a n c) (buildB l).1) ∧ Hid (Below W.heap.size W w')) := by
    intro v W h
    refine (HP.out.build l v W h).mono ?_
    rintro e' w' ⟨a, n, c, rfl, _, h5, h6⟩
    exact ⟨a, n, c, rfl, Octs.own h5.out (buildB_oct l), h6⟩
  have HRE : Hid (∀ (v : Value) (W : World), EntsR W v l → Calls Tryz.prog 7 #[v] W fun e w' => ∃ a n c, e = .returned (.tuple #[.slice a n c, .int .i64 (buildB l).2]) ∧ Hid (Octs w' (.slice a n c) (buildB l).1) ∧ Hid (Below W.heap.size W w')) := by
    intro v W h
    refine (refBuild_any l v W h).mono ?_
    rintro e' w' ⟨a, n, c, rfl, _, h5, h6⟩
    exact ⟨a, n, c, rfl, Octs.own h5.out (buildB_oct l), h6⟩
  have HD : Hid (∀ (a : Option Addr) (c : Nat) (W : World), Octs W (.slice a bn c) B → Calls Tryz.prog 8 #[.slice a bn c] W fun e w' => ∃ ea en ec fa fn fc, e = .returned (.tuple #[.agg #[.slice ea en ec, .int .i64 (openB B).2.1.1, .slice fa fn fc], .int .i64 (openB B).2.2]) ∧ Hid (EntsR w' (.slice ea en ec) (openB B).1) ∧ Hid (Octs w' (.slice fa fn fc) (openB B).2.1.2) ∧ Hid (Below W.heap.size W w')) := by
    intro a c W h
    refine (HP.out.opn B a bn c W hbn h hbl).mono ?_
    rintro e' w' ⟨ea, en, ec, fa, fn, fc, rfl, h4, h5, h6⟩
    exact ⟨ea, en, ec, fa, fn, fc, rfl, Rws.own h4.out.2, Octs.own h5.out.2 (open_oct B), h6⟩
  have HRD : Hid (∀ (a : Option Addr) (c : Nat) (W : World), Octs W (.slice a bn c) B → Calls Tryz.prog 9 #[.slice a bn c] W fun e w' => ∃ ea en ec fa fn fc, e = .returned (.tuple #[.agg #[.slice ea en ec, .int .i64 (openB B).2.1.1, .slice fa fn fc], .int .i64 (openB B).2.2]) ∧ Hid (EntsR w' (.slice ea en ec) (openB B).1) ∧ Hid (Octs w' (.slice fa fn fc) (openB B).2.1.2) ∧ Hid (Below W.heap.size W w')) := by
    intro a c W h
    refine (refOpen_any B a bn c W hbn h hbl).mono ?_
    rintro e' w' ⟨ea, en, ec, fa, fn, fc, rfl, h4, h5, h6⟩
    exact ⟨ea, en, ec, fa, fn, fc, rfl, Rws.own h4.out.2, Octs.own h5.out.2 (open_oct B), h6⟩
  have HS : Hid (∀ (a : Option Addr) (c : Nat) (W : World), Octs W (.slice a bn c) B → Calls Tryz.prog 10 #[.slice a bn c, .string key, .int .i64 seq] W fun e w' => e = .returned (.tuple #[.agg #[.string (getT B key seq).1.key, .int .i64 (getT B key seq).1.seq, .int .i64 (getT B key seq).1.kind, .string (getT B key seq).1.val], .bool (getT B key seq).2.1, .int .i64 (getT B key seq).2.2]) ∧ Hid (Below W.heap.size W w')) := fun a c W h => HP.out.get B a bn c key seq W hbn h hbl
  have HRS : Hid (∀ (a : Option Addr) (c : Nat) (W : World), Octs W (.slice a bn c) B → Calls Tryz.prog 11 #[.slice a bn c, .string key, .int .i64 seq] W fun e w' => e = .returned (.tuple #[.agg #[.string (getT B key seq).1.key, .int .i64 (getT B key seq).1.seq, .int .i64 (getT B key seq).1.kind, .string (getT B key seq).1.val], .bool (getT B key seq).2.1, .int .i64 (getT B key seq).2.2]) ∧ Hid (Below W.heap.size W w')) := fun a c W h => refGetT_any B a bn c key seq W hbn h hbl
  have HCE : Hid (∀ (v : Value) (W : World), EntsR W v l → Calls Tryz.prog 4 #[v] W fun e w' => ∃ a n c, e = .returned (.slice a n c) ∧ Hid (EntsR w' (.slice a n c) l) ∧ Hid (Below W.heap.size W w')) := by
    intro v W h
    refine (copyEnts_any l v W h hll).mono ?_
    rintro e' w' ⟨a, n, c, rfl, h5, h6, _⟩
    exact ⟨a, n, c, rfl, h5, h6⟩
  have HCB : Hid (∀ (v : Value) (W : World), Octs W v B → Calls Tryz.prog 5 #[v] W fun e w' => ∃ a c, e = .returned (.slice a bn c) ∧ Hid (Octs w' (.slice a bn c) B) ∧ Hid (Below W.heap.size W w')) := by
    intro v W h
    refine (copy_any B v W h (by omega)).mono ?_
    rintro e' w' ⟨v', rfl, h5, h6⟩
    obtain ⟨a, n, c, rfl, h7⟩ := own_shape h5
    obtain rfl : n = bn := by rw [h7.out, hbn]
    exact ⟨a, c, rfl, Octs.own h5 HOC.out, h6⟩
  clear hl hb hll hbl hbn P
  generalize (getT B key seq).1 = x at *
  generalize (getT B key seq).2.1 = is at *
  generalize (getT B key seq).2.2 = i at *
  generalize (openB B).2.2 = f at *
  generalize (openB B).2.1.1 = fk at *
  generalize (openB B).2.1.2 = fb at *
  generalize (openB B).1 = L at *
  generalize (buildB l).2 = g at *
  generalize (buildB l).1 = E at *
  go_enter Tryz.func3, Tryz.ntmps3
  go_wp2_with fail
  refine (HCE.out _ _ EL.out).mono ?_
  rintro e w1 ⟨oa, on, oc, rfl, EO, b1⟩
  have ELx : Hid (EntsR w1 vl l) := EL.out.up b1.out
  have OBx : Hid (Octs w1 (.slice ba bn bc) B) := OB.out.up b1.out
  have UUx : Hid (Below w.heap.size w w1) := up_trans UU.out b1.out
  clear EL OB UU
  have EL := ELx
  clear ELx
  have OB := OBx
  clear OBx
  have UU := UUx
  clear UUx
  clear b1
  go_wp2_with fail
  refine (HCB.out _ _ OB.out).mono ?_
  rintro e w2 ⟨ia, ic, rfl, OI, b2⟩
  have ELx : Hid (EntsR w2 vl l) := EL.out.up b2.out
  have OBx : Hid (Octs w2 (.slice ba bn bc) B) := OB.out.up b2.out
  have UUx : Hid (Below w.heap.size w w2) := up_trans UU.out b2.out
  have EOx : Hid (EntsR w2 (.slice oa on oc) l) := EO.out.up b2.out
  clear EL OB UU EO
  have EL := ELx
  clear ELx
  have OB := OBx
  clear OBx
  have UU := UUx
  clear UUx
  have EO := EOx
  clear EOx
  clear b2
  go_wp2_with fail
  refine (HE.out _ _ EO.out).mono ?_
  rintro e w3 ⟨pa, pn, pc, rfl, OP, b3⟩
  have ELx : Hid (EntsR w3 vl l) := EL.out.up b3.out
  have OBx : Hid (Octs w3 (.slice ba bn bc) B) := OB.out.up b3.out
  have UUx : Hid (Below w.heap.size w w3) := up_trans UU.out b3.out
  have EOx : Hid (EntsR w3 (.slice oa on oc) l) := EO.out.up b3.out
  have OIx : Hid (Octs w3 (.slice ia bn ic) B) := OI.out.up b3.out
  clear EL OB UU EO OI
  have EL := ELx
  clear ELx
  have OB := OBx
  clear OBx
  have UU := UUx
  clear UUx
  have EO := EOx
  clear EOx
  have OI := OIx
  clear OIx
  clear b3
  go_wp2_with fail
  refine (HRE.out _ _ EL.out).mono ?_
  rintro e w4 ⟨qa, qn, qc, rfl, OQ, b4⟩
  have ELx : Hid (EntsR w4 vl l) := EL.out.up b4.out
  have OBx : Hid (Octs w4 (.slice ba bn bc) B) := OB.out.up b4.out
  have UUx : Hid (Below w.heap.size w w4) := up_trans UU.out b4.out
  have EOx : Hid (EntsR w4 (.slice oa on oc) l) := EO.out.up b4.out
  have OIx : Hid (Octs w4 (.slice ia bn ic) B) := OI.out.up b4.out
  have OPx : Hid (Octs w4 (.slice pa pn pc) E) := OP.out.up b4.out
  clear EL OB UU EO OI OP
  have EL := ELx
  clear ELx
  have OB := OBx
  clear OBx
  have UU := UUx
  clear UUx
  have EO := EOx
  clear EOx
  have OI := OIx
  clear OIx
  have OP := OPx
  clear OPx
  clear b4
  go_wp2_with fail
  refine (HD.out _ _ _ OI.out).mono ?_
  rintro e w5 ⟨ua, un, uc, ga, gn, gc, rfl, LU, FU, b5⟩
  have ELx : Hid (EntsR w5 vl l) := EL.out.up b5.out
  have OBx : Hid (Octs w5 (.slice ba bn bc) B) := OB.out.up b5.out
  have UUx : Hid (Below w.heap.size w w5) := up_trans UU.out b5.out
  have EOx : Hid (EntsR w5 (.slice oa on oc) l) := EO.out.up b5.out
  have OIx : Hid (Octs w5 (.slice ia bn ic) B) := OI.out.up b5.out
  have OPx : Hid (Octs w5 (.slice pa pn pc) E) := OP.out.up b5.out
  have OQx : Hid (Octs w5 (.slice qa qn qc) E) := OQ.out.up b5.out
  clear EL OB UU EO OI OP OQ
  have EL := ELx
  clear ELx
  have OB := OBx
  clear OBx
  have UU := UUx
  clear UUx
  have EO := EOx
  clear EOx
  have OI := OIx
  clear OIx
  have OP := OPx
  clear OPx
  have OQ := OQx
  clear OQx
  clear b5
  obtain ⟨AU, hAU⟩ : ∃ A, A = w5.alloc (.cells #[.slice ua un uc, .int .i64 fk, .slice ga gn gc] 34) := ⟨_, rfl⟩
  have HAU : Hid (w5.alloc (.cells #[.slice ua un uc, .int .i64 fk, .slice ga gn gc] 34) = AU) := hAU.symm
  have UAU : Hid (Below w5.heap.size w5 AU) := by rw [hAU]; exact up_alloc _ _
  have NAU : Hid (AU.heap[w5.heap.size]? = some (.cells #[.slice ua un uc, .int .i64 fk, .slice ga gn gc] 34)) := by rw [hAU]; exact blk_new _ _
  clear hAU
  go_upto_region 5 with fail
  rw [HAU.out]
  clear HAU
  have ELx : Hid (EntsR AU vl l) := EL.out.up UAU.out
  have OBx : Hid (Octs AU (.slice ba bn bc) B) := OB.out.up UAU.out
  have UUx : Hid (Below w.heap.size w AU) := up_trans UU.out UAU.out
  have EOx : Hid (EntsR AU (.slice oa on oc) l) := EO.out.up UAU.out
  have OIx : Hid (Octs AU (.slice ia bn ic) B) := OI.out.up UAU.out
  have OPx : Hid (Octs AU (.slice pa pn pc) E) := OP.out.up UAU.out
  have OQx : Hid (Octs AU (.slice qa qn qc) E) := OQ.out.up UAU.out
  have LUx : Hid (EntsR AU (.slice ua un uc) L) := LU.out.up UAU.out
  have FUx : Hid (Octs AU (.slice ga gn gc) fb) := FU.out.up UAU.out
  clear EL OB UU EO OI OP OQ LU FU
  have EL := ELx
  clear ELx
  have OB := OBx
  clear OBx
  have UU := UUx
  clear UUx
  have EO := EOx
  clear EOx
  have OI := OIx
  clear OIx
  have OP := OPx
  clear OPx
  have OQ := OQx
  clear OQx
  have LU := LUx
  clear LUx
  have FU := FUx
  clear FUx
  clear UAU
  generalize w5.heap.size = MU at *
  have BU := NAU
  clear NAU
  go_wp2_with fail
  refine (HRD.out _ _ _ OB.out).mono ?_
  rintro e w6 ⟨va, vn, vc, ja, jn, jc, rfl, LV, FV, b6⟩
  have ELx : Hid (EntsR w6 vl l) := EL.out.up b6.out
  have OBx : Hid (Octs w6 (.slice ba bn bc) B) := OB.out.up b6.out
  have UUx : Hid (Below w.heap.size w w6) := up_trans UU.out b6.out
  have EOx : Hid (EntsR w6 (.slice oa on oc) l) := EO.out.up b6.out
  have OIx : Hid (Octs w6 (.slice ia bn ic) B) := OI.out.up b6.out
  have OPx : Hid (Octs w6 (.slice pa pn pc) E) := OP.out.up b6.out
  have OQx : Hid (Octs w6 (.slice qa qn qc) E) := OQ.out.up b6.out
  have LUx : Hid (EntsR w6 (.slice ua un uc) L) := LU.out.up b6.out
  have FUx : Hid (Octs w6 (.slice ga gn gc) fb) := FU.out.up b6.out
  have BUx : Hid (w6.heap[MU]? = some (.cells #[.slice ua un uc, .int .i64 fk, .slice ga gn gc] 34)) := blk_up BU.out b6.out
  clear EL OB UU EO OI OP OQ LU FU BU
  have EL := ELx
  clear ELx
  have OB := OBx
  clear OBx
  have UU := UUx
  clear UUx
  have EO := EOx
  clear EOx
  have OI := OIx
  clear OIx
  have OP := OPx
  clear OPx
  have OQ := OQx
  clear OQx
  have LU := LUx
  clear LUx
  have FU := FUx
  clear FUx
  have BU := BUx
  clear BUx
  clear b6
  obtain ⟨AV, hAV⟩ : ∃ A, A = w6.alloc (.cells #[.slice va vn vc, .int .i64 fk, .slice ja jn jc] 39) := ⟨_, rfl⟩
  have HAV : Hid (w6.alloc (.cells #[.slice va vn vc, .int .i64 fk, .slice ja jn jc] 39) = AV) := hAV.symm
  have UAV : Hid (Below w6.heap.size w6 AV) := by rw [hAV]; exact up_alloc _ _
  have NAV : Hid (AV.heap[w6.heap.size]? = some (.cells #[.slice va vn vc, .int .i64 fk, .slice ja jn jc] 39)) := by rw [hAV]; exact blk_new _ _
  clear hAV
  go_upto_region 6 with fail
  rw [HAV.out]
  clear HAV
  have ELx : Hid (EntsR AV vl l) := EL.out.up UAV.out
  have OBx : Hid (Octs AV (.slice ba bn bc) B) := OB.out.up UAV.out
  have UUx : Hid (Below w.heap.size w AV) := up_trans UU.out UAV.out
  have EOx : Hid (EntsR AV (.slice oa on oc) l) := EO.out.up UAV.out
  have OIx : Hid (Octs AV (.slice ia bn ic) B) := OI.out.up UAV.out
  have OPx : Hid (Octs AV (.slice pa pn pc) E) := OP.out.up UAV.out
  have OQx : Hid (Octs AV (.slice qa qn qc) E) := OQ.out.up UAV.out
  have LUx : Hid (EntsR AV (.slice ua un uc) L) := LU.out.up UAV.out
  have FUx : Hid (Octs AV (.slice ga gn gc) fb) := FU.out.up UAV.out
  have BUx : Hid (AV.heap[MU]? = some (.cells #[.slice ua un uc, .int .i64 fk, .slice ga gn gc] 34)) := blk_up BU.out UAV.out
  have LVx : Hid (EntsR AV (.slice va vn vc) L) := LV.out.up UAV.out
  have FVx : Hid (Octs AV (.slice ja jn jc) fb) := FV.out.up UAV.out
  clear EL OB UU EO OI OP OQ LU FU BU LV FV
  have EL := ELx
  clear ELx
  have OB := OBx
  clear OBx
  have UU := UUx
  clear UUx
  have EO := EOx
  clear EOx
  have OI := OIx
  clear OIx
  have OP := OPx
  clear OPx
  have OQ := OQx
  clear OQx
  have LU := LUx
  clear LUx
  have FU := FUx
  clear FUx
  have BU := BUx
  clear BUx
  have LV := LVx
  clear LVx
  have FV := FVx
  clear FVx
  clear UAV
  generalize w6.heap.size = MV at *
  have BV := NAV
  clear NAV
  go_wp2_with fail
  refine (HS.out _ _ _ OI.out).mono ?_
  rintro e w7 ⟨rfl, b7⟩
  have ELx : Hid (EntsR w7 vl l) := EL.out.up b7.out
  have OBx : Hid (Octs w7 (.slice ba bn bc) B) := OB.out.up b7.out
  have UUx : Hid (Below w.heap.size w w7) := up_trans UU.out b7.out
  have EOx : Hid (EntsR w7 (.slice oa on oc) l) := EO.out.up b7.out
  have OIx : Hid (Octs w7 (.slice ia bn ic) B) := OI.out.up b7.out
  have OPx : Hid (Octs w7 (.slice pa pn pc) E) := OP.out.up b7.out
  have OQx : Hid (Octs w7 (.slice qa qn qc) E) := OQ.out.up b7.out
  have LUx : Hid (EntsR w7 (.slice ua un uc) L) := LU.out.up b7.out
  have FUx : Hid (Octs w7 (.slice ga gn gc) fb) := FU.out.up b7.out
  have BUx : Hid (w7.heap[MU]? = some (.cells #[.slice ua un uc, .int .i64 fk, .slice ga gn gc] 34)) := blk_up BU.out b7.out
  have LVx : Hid (EntsR w7 (.slice va vn vc) L) := LV.out.up b7.out
  have FVx : Hid (Octs w7 (.slice ja jn jc) fb) := FV.out.up b7.out
  have BVx : Hid (w7.heap[MV]? = some (.cells #[.slice va vn vc, .int .i64 fk, .slice ja jn jc] 39)) := blk_up BV.out b7.out
  clear EL OB UU EO OI OP OQ LU FU BU LV FV BV
  have EL := ELx
  clear ELx
  have OB := OBx
  clear OBx
  have UU := UUx
  clear UUx
  have EO := EOx
  clear EOx
  have OI := OIx
  clear OIx
  have OP := OPx
  clear OPx
  have OQ := OQx
  clear OQx
  have LU := LUx
  clear LUx
  have FU := FUx
  clear FUx
  have BU := BUx
  clear BUx
  have LV := LVx
  clear LVx
  have FV := FVx
  clear FVx
  have BV := BVx
  clear BVx
  clear b7
  obtain ⟨AX, hAX⟩ : ∃ A, A = w7.alloc (.cells #[.string x.key, .int .i64 x.seq, .int .i64 x.kind, .string x.val] 43) := ⟨_, rfl⟩
  have HAX : Hid (w7.alloc (.cells #[.string x.key, .int .i64 x.seq, .int .i64 x.kind, .string x.val] 43) = AX) := hAX.symm
  have UAX : Hid (Below w7.heap.size w7 AX) := by rw [hAX]; exact up_alloc _ _
  have NAX : Hid (AX.heap[w7.heap.size]? = some (.cells #[.string x.key, .int .i64 x.seq, .int .i64 x.kind, .string x.val] 43)) := by rw [hAX]; exact blk_new _ _
  clear hAX
  go_upto_region 7 with fail
  rw [HAX.out]
  clear HAX
  have ELx : Hid (EntsR AX vl l) := EL.out.up UAX.out
  have OBx : Hid (Octs AX (.slice ba bn bc) B) := OB.out.up UAX.out
  have UUx : Hid (Below w.heap.size w AX) := up_trans UU.out UAX.out
  have EOx : Hid (EntsR AX (.slice oa on oc) l) := EO.out.up UAX.out
  have OIx : Hid (Octs AX (.slice ia bn ic) B) := OI.out.up UAX.out
  have OPx : Hid (Octs AX (.slice pa pn pc) E) := OP.out.up UAX.out
  have OQx : Hid (Octs AX (.slice qa qn qc) E) := OQ.out.up UAX.out
  have LUx : Hid (EntsR AX (.slice ua un uc) L) := LU.out.up UAX.out
  have FUx : Hid (Octs AX (.slice ga gn gc) fb) := FU.out.up UAX.out
  have BUx : Hid (AX.heap[MU]? = some (.cells #[.slice ua un uc, .int .i64 fk, .slice ga gn gc] 34)) := blk_up BU.out UAX.out
  have LVx : Hid (EntsR AX (.slice va vn vc) L) := LV.out.up UAX.out
  have FVx : Hid (Octs AX (.slice ja jn jc) fb) := FV.out.up UAX.out
  have BVx : Hid (AX.heap[MV]? = some (.cells #[.slice va vn vc, .int .i64 fk, .slice ja jn jc] 39)) := blk_up BV.out UAX.out
  clear EL OB UU EO OI OP OQ LU FU BU LV FV BV
  have EL := ELx
  clear ELx
  have OB := OBx
  clear OBx
  have UU := UUx
  clear UUx
  have EO := EOx
  clear EOx
  have OI := OIx
  clear OIx
  have OP := OPx
  clear OPx
  have OQ := OQx
  clear OQx
  have LU := LUx
  clear LUx
  have FU := FUx
  clear FUx
  have BU := BUx
  clear BUx
  have LV := LVx
  clear LVx
  have FV := FVx
  clear FVx
  have BV := BVx
  clear BVx
  clear UAX
  generalize w7.heap.size = MX at *
  have BX := NAX
  clear NAX
  go_wp2_with fail
  refine (HRS.out _ _ _ OB.out).mono ?_
  rintro e w8 ⟨rfl, b8⟩
  have ELx : Hid (EntsR w8 vl l) := EL.out.up b8.out
  have OBx : Hid (Octs w8 (.slice ba bn bc) B) := OB.out.up b8.out
  have UUx : Hid (Below w.heap.size w w8) := up_trans UU.out b8.out
  have EOx : Hid (EntsR w8 (.slice oa on oc) l) := EO.out.up b8.out
  have OIx : Hid (Octs w8 (.slice ia bn ic) B) := OI.out.up b8.out
  have OPx : Hid (Octs w8 (.slice pa pn pc) E) := OP.out.up b8.out
  have OQx : Hid (Octs w8 (.slice qa qn qc) E) := OQ.out.up b8.out
  have LUx : Hid (EntsR w8 (.slice ua un uc) L) := LU.out.up b8.out
  have FUx : Hid (Octs w8 (.slice ga gn gc) fb) := FU.out.up b8.out
  have BUx : Hid (w8.heap[MU]? = some (.cells #[.slice ua un uc, .int .i64 fk, .slice ga gn gc] 34)) := blk_up BU.out b8.out
  have LVx : Hid (EntsR w8 (.slice va vn vc) L) := LV.out.up b8.out
  have FVx : Hid (Octs w8 (.slice ja jn jc) fb) := FV.out.up b8.out
  have BVx : Hid (w8.heap[MV]? = some (.cells #[.slice va vn vc, .int .i64 fk, .slice ja jn jc] 39)) := blk_up BV.out b8.out
  have BXx : Hid (w8.heap[MX]? = some (.cells #[.string x.key, .int .i64 x.seq, .int .i64 x.kind, .string x.val] 43)) := blk_up BX.out b8.out
  clear EL OB UU EO OI OP OQ LU FU BU LV FV BV BX
  have EL := ELx
  clear ELx
  have OB := OBx
  clear OBx
  have UU := UUx
  clear UUx
  have EO := EOx
  clear EOx
  have OI := OIx
  clear OIx
  have OP := OPx
  clear OPx
  have OQ := OQx
  clear OQx
  have LU := LUx
  clear LUx
  have FU := FUx
  clear FUx
  have BU := BUx
  clear BUx
  have LV := LVx
  clear LVx
  have FV := FVx
  clear FVx
  have BV := BVx
  clear BVx
  have BX := BXx
  clear BXx
  clear b8
  obtain ⟨AY, hAY⟩ : ∃ A, A = w8.alloc (.cells #[.string x.key, .int .i64 x.seq, .int .i64 x.kind, .string x.val] 43) := ⟨_, rfl⟩
  have HAY : Hid (w8.alloc (.cells #[.string x.key, .int .i64 x.seq, .int .i64 x.kind, .string x.val] 43) = AY) := hAY.symm
  have UAY : Hid (Below w8.heap.size w8 AY) := by rw [hAY]; exact up_alloc _ _
  have NAY : Hid (AY.heap[w8.heap.size]? = some (.cells #[.string x.key, .int .i64 x.seq, .int .i64 x.kind, .string x.val] 43)) := by rw [hAY]; exact blk_new _ _
  clear hAY
  go_upto_region 8 with fail
  rw [HAY.out]
  clear HAY
  have ELx : Hid (EntsR AY vl l) := EL.out.up UAY.out
  have OBx : Hid (Octs AY (.slice ba bn bc) B) := OB.out.up UAY.out
  have UUx : Hid (Below w.heap.size w AY) := up_trans UU.out UAY.out
  have EOx : Hid (EntsR AY (.slice oa on oc) l) := EO.out.up UAY.out
  have OIx : Hid (Octs AY (.slice ia bn ic) B) := OI.out.up UAY.out
  have OPx : Hid (Octs AY (.slice pa pn pc) E) := OP.out.up UAY.out
  have OQx : Hid (Octs AY (.slice qa qn qc) E) := OQ.out.up UAY.out
  have LUx : Hid (EntsR AY (.slice ua un uc) L) := LU.out.up UAY.out
  have FUx : Hid (Octs AY (.slice ga gn gc) fb) := FU.out.up UAY.out
  have BUx : Hid (AY.heap[MU]? = some (.cells #[.slice ua un uc, .int .i64 fk, .slice ga gn gc] 34)) := blk_up BU.out UAY.out
  have LVx : Hid (EntsR AY (.slice va vn vc) L) := LV.out.up UAY.out
  have FVx : Hid (Octs AY (.slice ja jn jc) fb) := FV.out.up UAY.out
  have BVx : Hid (AY.heap[MV]? = some (.cells #[.slice va vn vc, .int .i64 fk, .slice ja jn jc] 39)) := blk_up BV.out UAY.out
  have BXx : Hid (AY.heap[MX]? = some (.cells #[.string x.key, .int .i64 x.seq, .int .i64 x.kind, .string x.val] 43)) := blk_up BX.out UAY.out
  clear EL OB UU EO OI OP OQ LU FU BU LV FV BV BX
  have EL := ELx
  clear ELx
  have OB := OBx
  clear OBx
  have UU := UUx
  clear UUx
  have EO := EOx
  clear EOx
  have OI := OIx
  clear OIx
  have OP := OPx
  clear OPx
  have OQ := OQx
  clear OQx
  have LU := LUx
  clear LUx
  have FU := FUx
  clear FUx
  have BU := BUx
  clear BUx
  have LV := LVx
  clear LVx
  have FV := FVx
  clear FVx
  have BV := BVx
  clear BVx
  have BX := BXx
  clear BXx
  clear UAY
  generalize w8.heap.size = MY at *
  have BY := NAY
  clear NAY
  go_wp2_with fail
  refine (sameB_up E _ _ _ OP.out OQ.out).mono ?_
  rintro e w9 ⟨rfl, b9⟩
  have ELx : Hid (EntsR w9 vl l) := EL.out.up b9.out
  have OBx : Hid (Octs w9 (.slice ba bn bc) B) := OB.out.up b9.out
  have UUx : Hid (Below w.heap.size w w9) := up_trans UU.out b9.out
  have EOx : Hid (EntsR w9 (.slice oa on oc) l) := EO.out.up b9.out
  have OIx : Hid (Octs w9 (.slice ia bn ic) B) := OI.out.up b9.out
  have OPx : Hid (Octs w9 (.slice pa pn pc) E) := OP.out.up b9.out
  have OQx : Hid (Octs w9 (.slice qa qn qc) E) := OQ.out.up b9.out
  have LUx : Hid (EntsR w9 (.slice ua un uc) L) := LU.out.up b9.out
  have FUx : Hid (Octs w9 (.slice ga gn gc) fb) := FU.out.up b9.out
  have BUx : Hid (w9.heap[MU]? = some (.cells #[.slice ua un uc, .int .i64 fk, .slice ga gn gc] 34)) := blk_up BU.out b9.out
  have LVx : Hid (EntsR w9 (.slice va vn vc) L) := LV.out.up b9.out
  have FVx : Hid (Octs w9 (.slice ja jn jc) fb) := FV.out.up b9.out
  have BVx : Hid (w9.heap[MV]? = some (.cells #[.slice va vn vc, .int .i64 fk, .slice ja jn jc] 39)) := blk_up BV.out b9.out
  have BXx : Hid (w9.heap[MX]? = some (.cells #[.string x.key, .int .i64 x.seq, .int .i64 x.kind, .string x.val] 43)) := blk_up BX.out b9.out
  have BYx : Hid (w9.heap[MY]? = some (.cells #[.string x.key, .int .i64 x.seq, .int .i64 x.kind, .string x.val] 43)) := blk_up BY.out b9.out
  clear EL OB UU EO OI OP OQ LU FU BU LV FV BV BX BY
  have EL := ELx
  clear ELx
  have OB := OBx
  clear OBx
  have UU := UUx
  clear UUx
  have EO := EOx
  clear EOx
  have OI := OIx
  clear OIx
  have OP := OPx
  clear OPx
  have OQ := OQx
  clear OQx
  have LU := LUx
  clear LUx
  have FU := FUx
  clear FUx
  have BU := BUx
  clear BUx
  have LV := LVx
  clear LVx
  have FV := FVx
  clear FVx
  have BV := BVx
  clear BVx
  have BX := BXx
  clear BXx
  have BY := BYx
  clear BYx
  clear b9
  clear OP OQ
  go_wp2_with fail
  refine (HN.out _ _).mono ?_
  rintro e w10 ⟨rfl, rfl⟩
  have cu0 := blk_cell BU.out 0 _ rfl
  have cu1 := blk_cell BU.out 1 _ rfl
  have cu2 := blk_cell BU.out 2 _ rfl
  have cv0 := blk_cell BV.out 0 _ rfl
  have cv1 := blk_cell BV.out 1 _ rfl
  have cv2 := blk_cell BV.out 2 _ rfl
  go_wp2_with fail
  refine (same_law L fb fk _ _ _ _ _ _ _ _ _ _ _ _ _ LU.out FU.out LV.out FV.out).mono ?_
  rintro e w11 ⟨rfl, b11⟩
  have ELx : Hid (EntsR w11 vl l) := EL.out.up b11.out
  have OBx : Hid (Octs w11 (.slice ba bn bc) B) := OB.out.up b11.out
  have UUx : Hid (Below w.heap.size w w11) := up_trans UU.out b11.out
  have EOx : Hid (EntsR w11 (.slice oa on oc) l) := EO.out.up b11.out
  have OIx : Hid (Octs w11 (.slice ia bn ic) B) := OI.out.up b11.out
  have LUx : Hid (EntsR w11 (.slice ua un uc) L) := LU.out.up b11.out
  have FUx : Hid (Octs w11 (.slice ga gn gc) fb) := FU.out.up b11.out
  have BUx : Hid (w11.heap[MU]? = some (.cells #[.slice ua un uc, .int .i64 fk, .slice ga gn gc] 34)) := blk_up BU.out b11.out
  have LVx : Hid (EntsR w11 (.slice va vn vc) L) := LV.out.up b11.out
  have FVx : Hid (Octs w11 (.slice ja jn jc) fb) := FV.out.up b11.out
  have BVx : Hid (w11.heap[MV]? = some (.cells #[.slice va vn vc, .int .i64 fk, .slice ja jn jc] 39)) := blk_up BV.out b11.out
  have BXx : Hid (w11.heap[MX]? = some (.cells #[.string x.key, .int .i64 x.seq, .int .i64 x.kind, .string x.val] 43)) := blk_up BX.out b11.out
  have BYx : Hid (w11.heap[MY]? = some (.cells #[.string x.key, .int .i64 x.seq, .int .i64 x.kind, .string x.val] 43)) := blk_up BY.out b11.out
  clear EL OB UU EO OI LU FU BU LV FV BV BX BY
  have EL := ELx
  clear ELx
  have OB := OBx
  clear OBx
  have UU := UUx
  clear UUx
  have EO := EOx
  clear EOx
  have OI := OIx
  clear OIx
  have LU := LUx
  clear LUx
  have FU := FUx
  clear FUx
  have BU := BUx
  clear BUx
  have LV := LVx
  clear LVx
  have FV := FVx
  clear FVx
  have BV := BVx
  clear BVx
  have BX := BXx
  clear BXx
  have BY := BYx
  clear BYx
  clear b11
  clear cu0 cu1 cu2 cv0 cv1 cv2 BU BV LU FU LV FV
  go_wp2_with fail
  refine (HN.out _ _).mono ?_
  rintro e w12 ⟨rfl, rfl⟩
  have cX0 := blk_cell BX.out 0 _ rfl
  have cX1 := blk_cell BX.out 1 _ rfl
  have cX2 := blk_cell BX.out 2 _ rfl
  have cX3 := blk_cell BX.out 3 _ rfl
  have cY0 := blk_cell BY.out 0 _ rfl
  have cY1 := blk_cell BY.out 1 _ rfl
  have cY2 := blk_cell BY.out 2 _ rfl
  have cY3 := blk_cell BY.out 3 _ rfl
  go_wp2_with fail
  refine (HN.out _ _).mono ?_
  rintro e w13 ⟨rfl, rfl⟩
  clear cX0 cX1 cX2 cX3 cY0 cY1 cY2 cY3 BX BY
  go_wp2_with fail
  refine (sameE_law l _ _ _ EO.out EL.out).mono ?_
  rintro e w17 ⟨rfl, b17⟩
  have ELx : Hid (EntsR w17 vl l) := EL.out.up b17.out
  have OBx : Hid (Octs w17 (.slice ba bn bc) B) := OB.out.up b17.out
  have UUx : Hid (Below w.heap.size w w17) := up_trans UU.out b17.out
  have EOx : Hid (EntsR w17 (.slice oa on oc) l) := EO.out.up b17.out
  have OIx : Hid (Octs w17 (.slice ia bn ic) B) := OI.out.up b17.out
  clear EL OB UU EO OI
  have EL := ELx
  clear ELx
  have OB := OBx
  clear OBx
  have UU := UUx
  clear UUx
  have EO := EOx
  clear EOx
  have OI := OIx
  clear OIx
  clear b17
  go_wp2_with fail
  refine (sameB_up B _ _ _ OI.out OB.out).mono ?_
  rintro e w18 ⟨rfl, b18⟩
  have ELx : Hid (EntsR w18 vl l) := EL.out.up b18.out
  have OBx : Hid (Octs w18 (.slice ba bn bc) B) := OB.out.up b18.out
  have UUx : Hid (Below w.heap.size w w18) := up_trans UU.out b18.out
  have EOx : Hid (EntsR w18 (.slice oa on oc) l) := EO.out.up b18.out
  have OIx : Hid (Octs w18 (.slice ia bn ic) B) := OI.out.up b18.out
  clear EL OB UU EO OI
  have EL := ELx
  clear ELx
  have OB := OBx
  clear OBx
  have UU := UUx
  clear UUx
  have EO := EOx
  clear EOx
  have OI := OIx
  clear OIx
  clear b18
  go_wp2_with fail
  refine (HP.out.alive _).mono ?_
  rintro e w19 ⟨rfl, b19⟩
  have ELx : Hid (EntsR w19 vl l) := EL.out.up b19.out
  have OBx : Hid (Octs w19 (.slice ba bn bc) B) := OB.out.up b19.out
  have UUx : Hid (Below w.heap.size w w19) := up_trans UU.out b19.out
  have EOx : Hid (EntsR w19 (.slice oa on oc) l) := EO.out.up b19.out
  have OIx : Hid (Octs w19 (.slice ia bn ic) B) := OI.out.up b19.out
  clear EL OB UU EO OI
  have EL := ELx
  clear ELx
  have OB := OBx
  clear OBx
  have UU := UUx
  clear UUx
  have EO := EOx
  clear EOx
  have OI := OIx
  clear OIx
  clear b19
  go_wp2
  go_ret
  exact ⟨rfl, UU.out⟩
end Go.Proofs.YtekoniaobmapdaaGreat
