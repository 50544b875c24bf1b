/- The document's Next. -/
import Derived.Test.YtpjmieiajhhbaaaDoorGD
namespace Go.Proofs.YtpjmieiajhhbaaaDoor
open Go.RowKit
set_option linter.unusedVariables false
set_option linter.unusedSimpArgs false

def ruC (r : Ru) : Array Value := #[.int .u64 (r.mi : Int), .int .u64 (r.ho : Int), .int .u64 (r.da : Int), .int .u64 (r.mo : Int), .int .u64 (r.we : Int), .bool r.ad, .bool r.aw]
def momC (n : Int) : Array Value := #[.int .i64 (dateY n), .int .i64 (dateM n), .int .i64 (dateD n), .int .i64 0, .int .i64 0, .int .i64 0, .int .i64 ((n + 4) % 7)]
/-- What a round of the days finds. -/
structure NxAt (w wr : World) (r : Ru) (N7 : Nat) (t n : Int) : Prop where
  rule : wr.heap[w.heap.size]? = some (.cells (ruC r) 58)
  mom : n < 376200 → wr.heap[N7]? = some (.cells (momC n) 100)
  below : Below w.heap.size w wr
  far : w.heap.size < N7
  none_ : ∀ b, t < b → b < 86400 * n → comesAt r b = false
/-- What Next returns. -/
def NextE (r : Ru) (t : Int) (e : Ending) : Prop := ∃ a is c, e = .returned (.tuple #[.int .i64 a, .bool is, .int .i64 c]) ∧ NextR r t a is c
set_option maxHeartbeats 4000000 in
set_option maxRecDepth 20000 in
theorem nextR_any (r : Ru) (hr : r.ok) (t : Int) (w : World) :
    Calls Tryd.prog 27 #[ruV r, .int .i64 t] w fun e w' => NextE r t e ∧ Below w.heap.size w w' := by
  have HC : Hid (∀ w', Calls Tryd.prog 50 #[ruV r] w' fun e w'' => e = .returned (.int .i64 (checkP r)) ∧ Below w'.heap.size w' w'') := fun w' => checkR_any r hr w'
  have b0 := hid (blk_new w (.cells (ruC r) 58))
  have hb0 := hid (up_alloc w (.cells (ruC r) 58))
  unfold ruC at b0 hb0
  rcases checkP_two r with hc | hc
  · rw [hc] at HC
    have HCP := hid hc
    rw [ruV_form] at HC
    by_cases h : -1 ≤ t ∧ t < 32503680000
    · obtain ⟨t0, t1⟩ := h
      have n1 : ¬ t < -1 := by omega
      have n2 : ¬ 32503680000 ≤ t := by omega
      have HS : Hid (∀ w', Calls Tryd.prog 51 #[.int .i64 (t + 1 - (t + 1) % 86400)] w' fun e w'' => e = .returned (retM (momP (t + 1 - (t + 1) % 86400))) ∧ Below w'.heap.size w' w'') := fun w' => SplitR_any _ w'
      obtain ⟨p0, p1, p2, p3, p4, p5, p6, px, q⟩ := sev_of (momP (t + 1 - (t + 1) % 86400)) (momP_len _)
      have MQ : Hid ((t + 1) / 86400 < 376200 → (#[.int .i64 p0, .int .i64 p1, .int .i64 p2, .int .i64 p3, .int .i64 p4, .int .i64 p5, .int .i64 p6] : Array Value) = momC ((t + 1) / 86400)) := by
        intro hn
        have e : momP (t + 1 - (t + 1) % 86400) = ([dateY ((t + 1 - (t + 1) % 86400) / 86400), dateM ((t + 1 - (t + 1) % 86400) / 86400), dateD ((t + 1 - (t + 1) % 86400) / 86400), hourT (t + 1 - (t + 1) % 86400), minT (t + 1 - (t + 1) % 86400), secT (t + 1 - (t + 1) % 86400), ((t + 1 - (t + 1) % 86400) / 86400 + 4) % 7], 0) := if_pos ⟨by omega, by omega⟩
        rw [q] at e
        simp only [Prod.mk.injEq, List.cons.injEq, and_true] at e
        obtain ⟨⟨e0, e1, e2, e3, e4, e5, e6⟩, -⟩ := e
        have d : (t + 1 - (t + 1) % 86400) / 86400 = (t + 1) / 86400 := by omega
        have z1 : hourT (t + 1 - (t + 1) % 86400) = 0 := by unfold hourT; omega
        have z2 : minT (t + 1 - (t + 1) % 86400) = 0 := by unfold minT; omega
        have z3 : secT (t + 1 - (t + 1) % 86400) = 0 := by unfold secT; omega
        rw [d] at e0 e1 e2 e6
        rw [z1] at e3
        rw [z2] at e4
        rw [z3] at e5
        rw [e0, e1, e2, e3, e4, e5, e6]
        rfl
      rw [q] at HS
      have R : retM ([p0, p1, p2, p3, p4, p5, p6], px) = .tuple #[.agg #[.int .i64 p0, .int .i64 p1, .int .i64 p2, .int .i64 p3, .int .i64 p4, .int .i64 p5, .int .i64 p6], .int .i64 px] := rfl
      rw [R] at HS
      clear R q hc
      rw [ruV_form]
      go_enter Tryd.func27, Tryd.ntmps27
      go_wp2_with fail
      refine (HC.out _).mono ?_
      rintro e w1 ⟨rfl, hb1⟩
      have k1 := hid (blk_up b0.out hb1)
      have u1 := hid (up_trans hb0.out hb1)
      clear hb1
      go_wp2_with fail
      refine (HS.out _).mono ?_
      rintro e w2 ⟨rfl, hb2⟩
      have k2 := hid (blk_up (blk_up k1.out hb2) (up_alloc w2 (.cells #[.int .i64 p0, .int .i64 p1, .int .i64 p2, .int .i64 p3, .int .i64 p4, .int .i64 p5, .int .i64 p6] 100)))
      have m2 := hid (blk_new w2 (.cells #[.int .i64 p0, .int .i64 p1, .int .i64 p2, .int .i64 p3, .int .i64 p4, .int .i64 p5, .int .i64 p6] 100))
      have u2 := hid (up_al (up_trans u1.out hb2) (.cells #[.int .i64 p0, .int .i64 p1, .int .i64 p2, .int .i64 p3, .int .i64 p4, .int .i64 p5, .int .i64 p6] 100))
      have s2 : w.heap.size < w2.heap.size := by
        have h1 := blk_lt k1.out
        have h2 := hb2.size
        omega
      have ST : Hid (NxAt w (w2.alloc (.cells #[.int .i64 p0, .int .i64 p1, .int .i64 p2, .int .i64 p3, .int .i64 p4, .int .i64 p5, .int .i64 p6] 100)) r w2.heap.size t ((t + 1) / 86400)) := by
        refine ⟨k2.out, fun hn => ?_, u2.out, s2, fun b hb1 hb2 => by omega⟩
        exact m2.out.trans (by rw [MQ.out hn])
      clear k1 u1 hb2 b0 hb0 k2 m2 u2 MQ HS HC
      have HT : Hid (∀ (n y m d wd : Int), IsDate n y m d → 0 ≤ wd → wd < 7 → ∀ w', Calls Tryd.prog 52 #[.agg #[.int .i64 y, .int .i64 m, .int .i64 d, .int .i64 0, .int .i64 0, .int .i64 0, .int .i64 wd]] w' fun e w'' => e = .returned (.agg #[.int .i64 (nextD y m d).1, .int .i64 (nextD y m d).2.1, .int .i64 (nextD y m d).2.2, .int .i64 0, .int .i64 0, .int .i64 0, .int .i64 ((wd + 1) % 7)]) ∧ Below w'.heap.size w' w'') := fun n y m d wd h h0 h1 w' => tomorrow_any n y m d wd h h0 h1 w'
      have HY : Hid (∀ n : Int, 0 ≤ n → n < 376200 → ∀ w', Calls Tryd.prog 53 #[.agg #[.int .u64 (r.mi : Int), .int .u64 (r.ho : Int), .int .u64 (r.da : Int), .int .u64 (r.mo : Int), .int .u64 (r.we : Int), .bool r.ad, .bool r.aw], .agg #[.int .i64 (dateY n), .int .i64 (dateM n), .int .i64 (dateD n), .int .i64 0, .int .i64 0, .int .i64 0, .int .i64 ((n + 4) % 7)]] w' fun e w'' => e = .returned (.bool (dayAt r n)) ∧ Below w'.heap.size w' w'') := by
        intro n h0 h1 w'
        have D := date_is h0 h1
        have lm := lenM_pos (dateY n) (dateM n)
        obtain ⟨-, -, m0, m1, d0, d1, -⟩ := D
        have := dayR_any r hr (dateY n) (dateM n).toNat (dateD n).toNat 0 0 0 ((n + 4) % 7).toNat (by omega) (by omega) (by omega) w'
        rw [nat_of (by omega : 0 ≤ dateM n), nat_of (by omega : 0 ≤ dateD n), nat_of (by omega : 0 ≤ (n + 4) % 7)] at this
        exact this
      have HM : Hid (∀ k : Nat, k < 1440 → ∀ w', Calls Tryd.prog 54 #[.int .u64 (r.mi : Int), .int .i64 ((k : Int) % 60)] w' fun e w'' => e = .returned (.bool (r.mi.testBit (k % 60))) ∧ w'' = w') := by
        intro k hk w'
        have := has_any r.mi (k % 60) (hr _ (by simp [Ru.sets])) (by omega) w'
        rw [show ((k % 60 : Nat) : Int) = (k : Int) % 60 by omega] at this
        exact this
      have HO : Hid (∀ k : Nat, k < 1440 → ∀ w', Calls Tryd.prog 54 #[.int .u64 (r.ho : Int), .int .i64 ((k : Int) / 60)] w' fun e w'' => e = .returned (.bool (r.ho.testBit (k / 60))) ∧ w'' = w') := by
        intro k hk w'
        have := has_any r.ho (k / 60) (hr _ (by simp [Ru.sets])) (by omega) w'
        rw [show ((k / 60 : Nat) : Int) = (k : Int) / 60 by omega] at this
        exact this
      go_wp2_with fail
      go_loopw [9] (fun q wr => ∃ n : Int, 0 ≤ n ∧ n ≤ 376200 ∧ q = .int .i64 n ∧ Hid (NxAt w wr r w2.heap.size t n)) (fun q _ => (376201 - intOf q).toNat)
      case atStart => exact ⟨(t + 1) / 86400, by omega, by omega, by first | rfl | go_num, ST⟩
      case round =>
        obtain ⟨n, n0, n1, rfl, HN⟩ := hrel
        by_cases c : n < 376200
        · have c' : 86400 * n < 32503680000 := by omega
          have hm := HN.out.mom c
          have hk := HN.out.rule
          have f := HN.out.far
          unfold momC at hm
          have TM := hid (HT.out n _ _ _ ((n + 4) % 7) (date_is n0 c) (by omega) (by omega))
          have YD := hid (HY.out n n0 c)
          have ND : Hid (n + 1 < 376200 → nextD (dateY n) (dateM n) (dateD n) = (dateY (n + 1), dateM (n + 1), dateD (n + 1))) := fun h => nextD_is (date_is n0 c) h
          have CAT : Hid (∀ k : Nat, k < 1440 → comesAt r (86400 * n + 60 * (k : Int)) = (r.mi.testBit (k % 60) && (r.ho.testBit (k / 60) && dayAt r n))) := fun k hk => comes_at r n k hk
          have z0 := blk_cell hm 0 _ rfl
          have z1 := blk_cell hm 1 _ rfl
          have z2 := blk_cell hm 2 _ rfl
          have z3 := blk_cell hm 3 _ rfl
          have z4 := blk_cell hm 4 _ rfl
          have z5 := blk_cell hm 5 _ rfl
          have z6 := blk_cell hm 6 _ rfl
          have HMM := hid hm
          clear hm
          obtain ⟨Y, hY⟩ : ∃ Y, Y = dateY n := ⟨_, rfl⟩
          obtain ⟨M, hM⟩ : ∃ M, M = dateM n := ⟨_, rfl⟩
          obtain ⟨D, hD⟩ : ∃ D, D = dateD n := ⟨_, rfl⟩
          obtain ⟨Wd, hWd⟩ : ∃ Wd, Wd = (n + 4) % 7 := ⟨_, rfl⟩
          rw [← hY, ← hM, ← hD, ← hWd] at TM YD HMM
          rw [← hY, ← hM, ← hD] at ND
          rw [← hY] at z0
          rw [← hM] at z1
          rw [← hD] at z2
          rw [← hWd] at z6
          have HWD := hid hWd
          clear hY hM hD hWd
          have y0 : ∀ o, (wr.alloc o).cell? ⟨w2.heap.size, 0, none⟩ = some (.int .i64 Y) := fun o => blk_cell (blk_up HMM.out (up_alloc wr o)) 0 _ rfl
          have y1 : ∀ o, (wr.alloc o).cell? ⟨w2.heap.size, 1, none⟩ = some (.int .i64 M) := fun o => blk_cell (blk_up HMM.out (up_alloc wr o)) 1 _ rfl
          have y2 : ∀ o, (wr.alloc o).cell? ⟨w2.heap.size, 2, none⟩ = some (.int .i64 D) := fun o => blk_cell (blk_up HMM.out (up_alloc wr o)) 2 _ rfl
          have y3 : ∀ o, (wr.alloc o).cell? ⟨w2.heap.size, 3, none⟩ = some (.int .i64 0) := fun o => blk_cell (blk_up HMM.out (up_alloc wr o)) 3 _ rfl
          have y4 : ∀ o, (wr.alloc o).cell? ⟨w2.heap.size, 4, none⟩ = some (.int .i64 0) := fun o => blk_cell (blk_up HMM.out (up_alloc wr o)) 4 _ rfl
          have y5 : ∀ o, (wr.alloc o).cell? ⟨w2.heap.size, 5, none⟩ = some (.int .i64 0) := fun o => blk_cell (blk_up HMM.out (up_alloc wr o)) 5 _ rfl
          have y6 : ∀ o, (wr.alloc o).cell? ⟨w2.heap.size, 6, none⟩ = some (.int .i64 Wd) := fun o => blk_cell (blk_up HMM.out (up_alloc wr o)) 6 _ rfl
          have b10 := hid (blk_new wr (.cells #[.int .i64 Y, .int .i64 M, .int .i64 D, .int .i64 0, .int .i64 0, .int .i64 0, .int .i64 Wd] 100))
          have hlt7 := blk_lt HMM.out
          go_wp2_with fail
          refine (TM.out _).mono ?_
          rintro e w3 ⟨rfl, hb3⟩
          have UA := up_trans (up_alloc wr (.cells #[.int .i64 Y, .int .i64 M, .int .i64 D, .int .i64 0, .int .i64 0, .int .i64 0, .int .i64 Wd] 100)) hb3
          have q7 := blk_up HMM.out UA
          have q0 := hid (blk_up hk UA)
          have q10 := hid (blk_up b10.out hb3)
          have U3 := hid (up_trans HN.out.below (up_trans (up_alloc wr _) hb3))
          have SZ := hid HN.out.below.size
          clear y0 y1 y2 y3 y4 y5 y6 z0 z1 z2 z3 z4 z5 z6 UA hb3 HMM b10 hk TM
          have c0 := blk_cell q7 0 _ rfl
          have c1 := blk_cell q7 1 _ rfl
          have c2 := blk_cell q7 2 _ rfl
          have c3 := blk_cell q7 3 _ rfl
          have c4 := blk_cell q7 4 _ rfl
          have c5 := blk_cell q7 5 _ rfl
          have c6 := blk_cell q7 6 _ rfl
          have f0 := blk_frozen q7 0
          have f1 := blk_frozen q7 1
          have f2 := blk_frozen q7 2
          have f3 := blk_frozen q7 3
          have f4 := blk_frozen q7 4
          have f5 := blk_frozen q7 5
          have f6 := blk_frozen q7 6
          generalize hnd : nextD Y M D = nd at *
          obtain ⟨a, b, d⟩ := nd
          dsimp only
          have W7 := hid (set7_blk q7 (.int .i64 a) (.int .i64 b) (.int .i64 d) (.int .i64 0) (.int .i64 0) (.int .i64 0) (.int .i64 ((Wd + 1) % 7)))
          have G7 := hid (set7_grown w3 w2.heap.size (.int .i64 a) (.int .i64 b) (.int .i64 d) (.int .i64 0) (.int .i64 0) (.int .i64 0) (.int .i64 ((Wd + 1) % 7)))
          clear hnd
          go_upto_region 11 with fail
          generalize hW5 : World.setCell _ _ _ = W5
          rw [hW5] at W7 G7
          have r0 := blk_grown q0.out G7.out (by simp; omega)
          have r10 := blk_grown q10.out G7.out (by simp; omega)
          have HR0 := hid r0
          have U5 : Hid (Below w.heap.size w W5) := U3.out.grown G7.out U3.out.size (fun k hk => by cases hk; omega)
          clear hW5 q7 c0 c1 c2 c3 c4 c5 c6 f0 f1 f2 f3 f4 f5 f6 q0 q10 G7 U3
          unfold ruC at r0
          have x0 := blk_cell r0 0 _ rfl
          have x1 := blk_cell r0 1 _ rfl
          have x2 := blk_cell r0 2 _ rfl
          have x3 := blk_cell r0 3 _ rfl
          have x4 := blk_cell r0 4 _ rfl
          have x5 := blk_cell r0 5 _ rfl
          have x6 := blk_cell r0 6 _ rfl
          have y0 := blk_cell r10 0 _ rfl
          have y1 := blk_cell r10 1 _ rfl
          have y2 := blk_cell r10 2 _ rfl
          have y3 := blk_cell r10 3 _ rfl
          have y4 := blk_cell r10 4 _ rfl
          have y5 := blk_cell r10 5 _ rfl
          have y6 := blk_cell r10 6 _ rfl
          clear r10
          have MK : Hid (∀ W, Below W5.heap.size W5 W → (∀ b, t < b → b < 86400 * (n + 1) → comesAt r b = false) → NxAt w W r w2.heap.size t (n + 1)) := by
            intro W hb hn
            refine ⟨blk_up HR0.out hb, fun hn1 => ?_, up_trans U5.out hb, s2, hn⟩
            have e := ND.out hn1
            simp only [Prod.mk.injEq] at e
            obtain ⟨e1, e2, e3⟩ := e
            refine (blk_up W7.out hb).trans ?_
            rw [e1, e2, e3, HWD.out]
            unfold momC
            rw [show (((n + 4) % 7 + 1) % 7) = (n + 1 + 4) % 7 by omega]
          have HNO := hid HN.out.none_
          clear W7 HR0 ND HWD HN
          go_wp2_with fail
          refine (YD.out _).mono ?_
          rintro e w4 ⟨rfl, hb4⟩
          have MK4 := hid (MK.out w4 hb4)
          have u4 := hid (up_trans U5.out hb4)
          have X0 := hid (blk_up r0 hb4)
          clear MK U5 x0 x1 x2 x3 x4 x5 x6 y0 y1 y2 y3 y4 y5 y6 hb4 YD r0
          cases hda : dayAt r n
          · have NN : Hid (∀ b, t < b → b < 86400 * (n + 1) → comesAt r b = false) := by
              intro b h1 h2
              by_cases c : b < 86400 * n
              · exact HNO.out b h1 c
              · exact comes_day (by rw [show b / 86400 = n by omega]; exact hda)
            clear hda
            go_wp2_with fail
            exact ⟨⟨n + 1, by omega, by omega, by go_num, MK4.out NN.out⟩, by simp [intOf]; omega⟩
          · have CAT2 : Hid (∀ k : Nat, k < 1440 → comesAt r (86400 * n + 60 * (k : Int)) = (r.mi.testBit (k % 60) && r.ho.testBit (k / 60))) := by
              intro k hk
              rw [CAT.out k hk, hda, Bool.and_true]
            clear CAT hda
            have x0 := blk_cell X0.out 0 _ rfl
            have x1 := blk_cell X0.out 1 _ rfl
            clear X0
            go_wp2_with fail
            go_loopw [11] (fun q wx => ∃ k : Nat, k ≤ 1440 ∧ q = .int .i64 (k : Int) ∧ Hid (∀ b, t < b → b < 86400 * n + 60 * (k : Int) → comesAt r b = false) ∧ w4 = wx) (fun q _ => (1440 - intOf q).toNat)
            case atStart => exact ⟨0, by omega, rfl, fun b h1 h2 => HNO.out b h1 (by omega), rfl⟩
            case round =>
              obtain ⟨k, hk, rfl, HK, rfl⟩ := hrel
              by_cases ck : k < 1440
              · have ck' : (k : Int) < 1440 := by omega
                have M1 := hid (HM.out k ck)
                have O1 := hid (HO.out k ck)
                have CK := hid (CAT2.out k ck)
                -- what stands between this minute and the next one
                have NX : Hid ((t < 86400 * n + 60 * (k : Int) → comesAt r (86400 * n + 60 * (k : Int)) = false) → ∀ b, t < b → b < 86400 * n + 60 * ((k + 1 : Nat) : Int) → comesAt r b = false) := by
                  intro h0 b h1 h2
                  by_cases c1 : b < 86400 * n + 60 * (k : Int)
                  · exact HK.out b h1 c1
                  · by_cases c2 : b = 86400 * n + 60 * (k : Int)
                    · subst c2
                      exact h0 h1
                    · exact comes_sec (by unfold secT; omega)
                generalize r.mi.testBit (k % 60) = b1 at *
                generalize r.ho.testBit (k / 60) = b2 at *
                by_cases cat : t < 86400 * n + 60 * (k : Int)
                · cases b1
                  · have N2 := hid (NX.out fun _ => by rw [CK.out]; rfl)
                    go_wp2_with fail
                    refine (M1.out _).mono ?_
                    rintro e w5 ⟨rfl, rfl⟩
                    go_wp2_with fail
                    exact ⟨⟨k + 1, by omega, by go_num, N2, by first | rfl | trivial⟩, by simp [intOf]; omega⟩
                  · cases b2
                    · have N2 := hid (NX.out fun _ => by rw [CK.out]; rfl)
                      go_wp2_with fail
                      refine (M1.out _).mono ?_
                      rintro e w5 ⟨rfl, rfl⟩
                      go_wp2_with fail
                      refine (O1.out _).mono ?_
                      rintro e w5 ⟨rfl, rfl⟩
                      go_wp2_with fail
                      exact ⟨⟨k + 1, by omega, by go_num, N2, by first | rfl | trivial⟩, by simp [intOf]; omega⟩
                    · have HR : Hid (NextR r t (86400 * n + 60 * (k : Int)) true 0) := .inr (.inr ⟨HCP.out, t0, t1, rfl, .inl ⟨rfl, cat, by omega, by omega, by rw [CK.out]; rfl, HK.out⟩⟩)
                      go_wp2_with fail
                      refine (M1.out _).mono ?_
                      rintro e w5 ⟨rfl, rfl⟩
                      go_wp2_with fail
                      refine (O1.out _).mono ?_
                      rintro e w5 ⟨rfl, rfl⟩
                      go_wp2_with fail
                      go_ret3
                      exact ⟨⟨86400 * n + 60 * (k : Int), true, 0, rfl, HR.out⟩, u4.out⟩
                · have N2 := hid (NX.out fun h => absurd h cat)
                  go_wp2_with fail
                  exact ⟨⟨k + 1, by omega, by go_num, N2, by first | rfl | trivial⟩, by simp [intOf]; omega⟩
              · obtain rfl : k = 1440 := by omega
                have NN : Hid (∀ b, t < b → b < 86400 * (n + 1) → comesAt r b = false) := fun b h1 h2 => HK.out b h1 (by omega)
                go_wp2_with fail
                exact ⟨⟨n + 1, by omega, by omega, by go_num, MK4.out NN.out⟩, by simp [intOf]; omega⟩
        · have c' : ¬ 86400 * n < 32503680000 := by omega
          have HR : Hid (NextR r t 0 false 0) := .inr (.inr ⟨HCP.out, t0, t1, rfl, .inr ⟨rfl, rfl, fun b h1 h2 => HN.out.none_ b h1 (by omega)⟩⟩)
          go_wp2_with fail
          go_ret3
          exact ⟨⟨0, false, 0, rfl, HR.out⟩, HN.out.below⟩
    · have hr' : NextR r t 0 false 4 := .inr (.inl ⟨HCP.out, by omega, rfl, rfl, rfl⟩)
      have HR := hid hr'
      clear hr' hr hc
      rw [ruV_form]
      go_enter Tryd.func27, Tryd.ntmps27
      go_wp2_with fail
      refine (HC.out _).mono ?_
      rintro e w1 ⟨rfl, hb1⟩
      have u1 := hid (up_trans hb0.out hb1)
      clear hb1
      by_cases c : t < -1
      · go_wp2_with fail
        go_ret3
        exact ⟨⟨0, false, 4, rfl, HR.out⟩, u1.out⟩
      · have c2 : 32503680000 ≤ t := by omega
        go_wp2_with fail
        go_ret3
        exact ⟨⟨0, false, 4, rfl, HR.out⟩, u1.out⟩
  · have HR : Hid (NextR r t 0 false 9) := .inl ⟨by rw [hc]; simp, rfl, rfl, rfl⟩
    rw [hc] at HC
    clear hc hr
    rw [ruV_form] at HC
    rw [ruV_form]
    go_enter Tryd.func27, Tryd.ntmps27
    go_wp2_with fail
    refine (HC.out _).mono ?_
    rintro e w1 ⟨rfl, hb1⟩
    go_wp2_with fail
    go_ret3
    exact ⟨⟨0, false, 9, rfl, HR.out⟩, up_trans hb0.out hb1⟩
end Go.Proofs.YtpjmieiajhhbaaaDoor
