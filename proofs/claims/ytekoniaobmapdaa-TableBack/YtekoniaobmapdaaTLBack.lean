/- TableBack walked upon what is wanted of the program. -/
import Derived.Test.YtekoniaobmapdaaG33
import Derived.Test.YtekoniaobmapdaaG14
namespace Go.Proofs.Ytekoniaobmapdaa
open Go.RowKit SumPlain
set_option linter.unusedVariables false
set_option linter.unusedSimpArgs false

theorem keysT_has : ∀ (l : List En) (p : Option (List Int)) (x : En), x ∈ l → p = some (nums x.key) ∨ nums x.key ∈ keysT p l
  | [], p, x, h => by cases h
  | y :: r, p, x, h => by
    rw [keysT]
    rcases List.mem_cons.1 h with rfl | h
    · cases hs : sameKT p (nums x.key)
      · right; simp
      · left
        cases p with
        | none => simp [sameKT] at hs
        | some q =>
          simp only [sameKT, beq_iff_eq] at hs
          rw [hs]
    · rcases keysT_has r (some (nums y.key)) x h with e | e
      · injection e with e
        cases hs : sameKT p (nums y.key)
        · right; rw [← e]; simp
        · left
          cases p with
          | none => simp [sameKT] at hs
          | some q =>
            simp only [sameKT, beq_iff_eq] at hs
            rw [hs, e]
      · right; exact List.mem_append_right _ e
theorem fil_has {l : List En} (h : chkT l = 0) (x : En) (hx : x ∈ l) : (mayB (filT l).1 (filT l).2.length && hasF (hashL (nums x.key)) (filT l).1.toNat (filT l).2.length (filT l).2) = true ∧ chkE (filT l).1 (filT l).2.length = 0 := by
  obtain ⟨h1, h2, h3⟩ := chkT_ok h
  have hk := keysT_len' l none
  have he : errM 10 (keysT none l).length = 0 := by unfold errM; rw [if_neg (by decide), if_neg (by omega)]
  have hm := (make_may he).1
  have hh := (make_may he).2 (nums x.key) ((keysT_has l none x hx).resolve_left (by simp))
  constructor
  · rw [show mayB (filT l).1 (filT l).2.length = true from hm, Bool.true_and]
    exact hh
  · unfold chkE
    rw [show mayB (filT l).1 (filT l).2.length = true from hm, if_pos rfl]

set_option maxHeartbeats 4000000 in
set_option maxRecDepth 100000 in
theorem back_walk (P : PgT) (l : List En) (B : List Int) (a0 : Option Addr) (n0 c0 : Nat) (vb : Option Addr) (nb cb : Nat) (w : World) (hn0 : n0 = l.length) (hl : EntsR w (.slice a0 n0 c0) l) (hnb : nb = B.length) (hb : Octs w (.slice vb nb cb) B) (hbl : nb ≤ 140737488351232) :
    Calls Try.prog 3 #[.slice a0 n0 c0, .slice vb nb cb] w fun e w' => e = .returned (.bool true) ∧ Below w.heap.size w w' := by
  have HL : Hid (EntsR w (.slice a0 n0 c0) l) := hl
  have HB : Hid (Octs w (.slice vb nb cb) B) := hb
  have HP : Hid PgT := P
  have HNL : Hid (n0 = l.length) := hn0
  have hl63 : n0 ≤ 9223372036854775807 := by obtain ⟨_, _, e, h4, h5⟩ := hl.len; unfold maxLen at h5; simp only [Value.slice.injEq] at e; omega
  have HN : Hid (∀ (x : Int) (W : World), Calls Try.prog 9 #[.int .i64 x] W fun e w' => e = .returned (.int .i64 x) ∧ w' = W) := num_any
  have HD : Hid (∀ (W : World), Below w.heap.size w W → Calls Try.prog 10 #[.slice vb nb cb] W fun e w' => OpE (openB B) W e w') := fun W h => HP.out.opn B vb nb cb W hnb (HB.out.up h) hbl
  have H2 : Hid ((openB B).2.2 = 0 → ∀ (v : Value) (W : World), EntsR W v (openB B).1 → Calls Try.prog 8 #[v] W fun e w' => ∃ a n c, e = .returned (.tuple #[.slice a n c, .int .i64 0]) ∧ Hid (Octs w' (.slice a n c) B) ∧ Hid (Below W.heap.size W w')) := by
    intro h0 v W h
    have e := (open_build h0).1
    refine (HP.out.build _ v W h).mono ?_
    rintro e' w' ⟨a, n, c, rfl, _, h5, h6⟩
    rw [e] at h5 ⊢
    exact ⟨a, n, c, rfl, Octs.own h5.out HB.out.1, h6⟩
  have HZ : Hid ((openB B).2.2 ≠ 0 → (openB B).1.length = 0) := fun h => by rw [(open_bad h).1]; rfl
  have HBU : Hid (∀ W : World, Below w.heap.size w W → Calls Try.prog 8 #[.slice a0 n0 c0] W fun e w' => ∃ a n c, e = .returned (.tuple #[.slice a n c, .int .i64 (buildB l).2]) ∧ Hid (n = (buildB l).1.length) ∧ Hid (OwnB w' W.heap.size (.slice a n c) (buildB l).1) ∧ Hid (Below W.heap.size W w')) := fun W h => HP.out.build l _ W (HL.out.up h)
  clear hl hb hn0 hnb P
  unfold OpE at HD
  generalize openB B = OB at *
  obtain ⟨L, ⟨fk, fb⟩, q⟩ := OB
  dsimp only at *
  go_enter Try.func3, Try.ntmps3
  go_wp2_with fail
  refine (HP.out.alive _).mono ?_
  rintro e w1 ⟨rfl, b1⟩
  have U1 : Hid (Below w.heap.size w w1) := b1
  clear b1
  by_cases hch : chkT l = 0
  · rw [buildB_good hch] at HBU
    have HOL : Hid (∀ (a : Option Addr) (n c : Nat) (W : World), n = (tabO l).length → OwnB W w1.heap.size (.slice a n c) (tabO l) → Calls Try.prog 10 #[.slice a n c] W fun e w' => ∃ ea ec fa fc, e = .returned (.tuple #[.agg #[.slice ea n0 ec, .int .i64 (filT l).1, .slice fa (filT l).2.length fc], .int .i64 0]) ∧ Hid (EntsR w' (.slice ea n0 ec) l) ∧ Hid (Octs w' (.slice fa (filT l).2.length fc) (filT l).2) ∧ Hid (Below W.heap.size W w')) := fun a n c W hn h => by
      refine (HP.out.opn _ a n c W hn (Octs.own h (tab_oct hch)) (by have := (tab_le hch).2; omega)).mono ?_
      intro e w' hop
      rw [open_tab hch] at hop
      obtain ⟨ea, en, ec, fa, fn, fc, rfl, h1, h2, h3⟩ := hop
      obtain ⟨h1a, h1b⟩ := h1.out
      obtain ⟨h2a, h2b⟩ := h2.out
      dsimp only at h1a h2a
      subst h1a
      subst h2a
      rw [HNL.out]
      exact ⟨ea, ec, fa, fc, rfl, Rws.own h1b, Octs.own h2b (fil_may hch).2.2.1, h3⟩
    have HHS : Hid (∀ (x : En) (a : Option Addr) (c : Nat) (W : World), x ∈ l → Octs W (.slice a (filT l).2.length c) (filT l).2 → Calls Try.prog 12 #[.agg #[.int .i64 (filT l).1, .slice a (filT l).2.length c], .string x.key] W fun e w' => e = .returned (.tuple #[.bool true, .int .i64 0]) ∧ Below W.heap.size W w') := fun x a c W hx h => by
      have hm := ordE_may l none (chkT_ok hch).2.2 x hx
      have hle := (mayE_le hm).2.1
      have := has_any (nums x.key) (nums_octet x.key) (by omega) (filT l).1 (filT l).2 a c W h
      rw [(fil_has hch x hx).1, (fil_has hch x hx).2, str_nums] at this
      exact this
    clear hch
    generalize tabO l = T at *
    generalize filT l = FL at *
    generalize hfn : FL.2.length = fn at *
    clear hfn
    go_wp2_with fail
    refine (HBU.out _ U1.out).mono ?_
    rintro e w2 ⟨xa, xn, xc, rfl, XN, XO, b2⟩
    have U2 : Hid (Below w.heap.size w w2) := up_trans U1.out b2.out
    clear b2
    go_wp2_with fail
    refine (HN.out _ _).mono ?_
    rintro e w3 ⟨rfl, rfl⟩
    go_wp2_with fail
    refine (HOL.out xa xn xc _ XN.out XO.out).mono ?_
    rintro e w4 ⟨ea, ec, fa, fc, rfl, hE, hF, b4⟩
    have U4 : Hid (Below w.heap.size w w4) := up_trans U2.out b4.out
    obtain ⟨w5, hw5⟩ : ∃ w5, w5 = w4.alloc (.cells #[.slice ea n0 ec, .int .i64 FL.1, .slice fa fn fc] 32) := ⟨_, rfl⟩
    have HW5 : Hid (w4.alloc (.cells #[.slice ea n0 ec, .int .i64 FL.1, .slice fa fn fc] 32) = w5) := hw5.symm
    have V5 : Hid (Below w4.heap.size w4 w5) := by rw [hw5]; exact up_alloc _ _
    have B5 : Hid (w5.heap[w4.heap.size]? = some (.cells #[.slice ea n0 ec, .int .i64 FL.1, .slice fa fn fc] 32)) := by rw [hw5]; exact blk_new _ _
    have U5 : Hid (Below w.heap.size w w5) := up_trans U4.out V5.out
    have HE5 : Hid (EntsR w5 (.slice ea n0 ec) l) := EntsR.up hE.out V5.out
    have HF5 : Hid (Octs w5 (.slice fa fn fc) FL.2) := hF.out.up V5.out
    have g0 := blk_cell B5.out 0 _ rfl
    clear hw5 b4 XO XN HOL HBU U2 hE hF
    go_upto_region 6 with fail
    rw [HW5.out]
    go_wp2_with fail
    refine (HN.out _ _).mono ?_
    rintro e w3' ⟨rfl, rfl⟩
    have HSM := hid (sameEnts_self l _ _ _ HE5.out (HL.out.up U5.out))
    go_wp2_with fail
    refine HSM.out.mono ?_
    rintro e w6 ⟨rfl, d, rfl⟩
    have V6 : Hid (Below w3'.heap.size w3' (w3'.drewN d)) := up_drewN _ d
    have U6 : Hid (Below w.heap.size w (w3'.drewN d)) := up_trans U5.out V6.out
    have B6 : Hid ((w3'.drewN d).heap[w4.heap.size]? = some (.cells #[.slice ea n0 ec, .int .i64 FL.1, .slice fa fn fc] 32)) := blk_up B5.out V6.out
    have HF6 : Hid (Octs (w3'.drewN d) (.slice fa fn fc) FL.2) := HF5.out.up V6.out
    clear HSM B5 g0 HE5 HF5 V5
    generalize w3'.drewN d = w6 at *
    go_wp2_with fail
    go_loopw [9] (fun i wr => ∃ k : Nat, k ≤ n0 ∧ i = .int .i64 k ∧ Hid (Below w6.heap.size w6 wr)) (fun i _ => n0 - (intOf i).toNat)
    case atStart => exact ⟨0, Nat.zero_le _, rfl, Below.refl _ _⟩
    case round =>
      obtain ⟨k, hk, rfl, HBr⟩ := hrel
      by_cases hlt : k < n0
      · have hlt' : (k : Int) < (n0 : Int) := by omega
        obtain ⟨b, off, cap, x, e, hx, z0, _, _, _⟩ := (HL.out.up (up_trans U6.out HBr.out)).at k (by rw [← HNL.out]; exact hlt)
        simp only [Value.slice.injEq] at e
        obtain ⟨rfl, hq1, rfl⟩ := e
        clear hq1
        have HQ2 : Hid (∀ W : World, Below wr.heap.size wr W → Calls Try.prog 12 #[.agg #[.int .i64 FL.1, .slice fa fn fc], .string x.key] W fun e w' => e = .returned (.tuple #[.bool true, .int .i64 0]) ∧ Below W.heap.size W w') := fun W h => HHS.out x fa fc W (List.mem_of_getElem? hx) (HF6.out.up (up_trans HBr.out h))
        have Br := blk_up B6.out HBr.out
        have g1 := cell_up (blk_cell Br 1 _ rfl)
        have g2 := cell_up (blk_cell Br 2 _ rfl)
        have m0 := cell_up z0
        clear hx z0 Br
        go_wp2_with fail
        refine wp_region_up (by kernel_rfl) (by kernel_rfl) ?_
        repeat (quiet_step (first | (go_at_call 12; refine calls_up (HQ2.out _ (UpW.up _)))))
        refine wpQuiet_nil ?_
        intro _ hw'
        obtain ⟨p, hw''⟩ := hw'
        subst hw''
        have UP : Hid (Below w6.heap.size w6 p.val) := up_trans HBr.out p.up
        go_wp2_with fail
        refine (HN.out _ _).mono ?_
        rintro e w9 ⟨rfl, rfl⟩
        go_wp2_with fail
        exact ⟨⟨k + 1, by omega, by go_num, UP⟩, by simp [intOf]; omega⟩
      · have hlt' : ¬ (k : Int) < (n0 : Int) := by omega
        have UU : Hid (Below w.heap.size w wr) := up_trans U6.out HBr.out
        clear HBr B6 HF6 HHS U6 U4 U1 U5
        go_wp2_with fail
        refine (HD.out _ UU.out).mono ?_
        rintro e v6 ⟨za, zn, zc, ga, gn, gc, rfl, hz, hg, c6⟩
        obtain ⟨v7, hv7⟩ : ∃ v7, v7 = v6.alloc (.cells #[.slice za zn zc, .int .i64 fk, .slice ga gn gc] 32) := ⟨_, rfl⟩
        have HV7 : Hid (v6.alloc (.cells #[.slice za zn zc, .int .i64 fk, .slice ga gn gc] 32) = v7) := hv7.symm
        have V7 : Hid (Below v6.heap.size v6 v7) := by rw [hv7]; exact up_alloc _ _
        have B7 : Hid (v7.heap[v6.heap.size]? = some (.cells #[.slice za zn zc, .int .i64 fk, .slice ga gn gc] 32)) := by rw [hv7]; exact blk_new _ _
        have U7 : Hid (Below w.heap.size w v7) := up_trans (up_trans UU.out c6.out) V7.out
        have r0 := blk_cell B7.out 0 _ rfl
        clear hv7
        by_cases hq : q = 0
        · subst hq
          have HE7 : Hid (EntsR v7 (.slice za zn zc) L) := EntsR.up (Rws.own hz.out.2) V7.out
          clear HZ hz hg c6
          go_upto_region 15 with fail
          rw [HV7.out]
          go_wp2_with fail
          refine (HN.out _ _).mono ?_
          rintro e w7 ⟨rfl, rfl⟩
          go_wp2_with fail
          refine (H2.out trivial _ _ HE7.out).mono ?_
          rintro e w8 ⟨ua, un, uc, rfl, OG, b8⟩
          have U8 : Hid (Below w.heap.size w w8) := up_trans U7.out b8.out
          go_wp2_with fail
          refine (HN.out _ _).mono ?_
          rintro e w9 ⟨rfl, rfl⟩
          have HSB := sameB_law B _ _ _ OG.out (HB.out.up U8.out)
          go_wp2_with fail
          refine HSB.mono ?_
          rintro e w10 ⟨rfl, rfl⟩
          clear HSB
          go_wp2
          go_ret
          exact ⟨rfl, U8.out⟩
        · have hq1 : (q == 0) = false := by simp [hq]
          have hq2 : (q != 0) = true := by simp [hq]
          obtain rfl : zn = 0 := by rw [hz.out.1]; exact HZ.out hq
          clear hz hg c6
          go_upto_region 15 with fail
          rw [HV7.out]
          go_wp2_with fail
          refine (HN.out _ _).mono ?_
          rintro e w7 ⟨rfl, rfl⟩
          go_wp2
          go_ret
          exact ⟨rfl, U7.out⟩
  · have hp : ¬ (buildB l).2 = 0 := fun e => hch (buildB_zero.1 e)
    generalize (buildB l).2 = p at *
    generalize (buildB l).1 = E at *
    have hp1 : (p == 0) = false := by simp [hp]
    have hp2 : (p != 0) = true := by simp [hp]
    go_wp2_with fail
    refine (HBU.out _ U1.out).mono ?_
    rintro e w2 ⟨xa, xn, xc, rfl, XN, XO, b2⟩
    have UU : Hid (Below w.heap.size w w2) := up_trans U1.out b2.out
    clear b2 XN XO HBU U1
    go_wp2_with fail
    refine (HN.out _ _).mono ?_
    rintro e w3 ⟨rfl, rfl⟩
    go_wp2_with fail
    refine (HD.out _ UU.out).mono ?_
    rintro e v6 ⟨za, zn, zc, ga, gn, gc, rfl, hz, hg, c6⟩
    obtain ⟨v7, hv7⟩ : ∃ v7, v7 = v6.alloc (.cells #[.slice za zn zc, .int .i64 fk, .slice ga gn gc] 32) := ⟨_, rfl⟩
    have HV7 : Hid (v6.alloc (.cells #[.slice za zn zc, .int .i64 fk, .slice ga gn gc] 32) = v7) := hv7.symm
    have V7 : Hid (Below v6.heap.size v6 v7) := by rw [hv7]; exact up_alloc _ _
    have B7 : Hid (v7.heap[v6.heap.size]? = some (.cells #[.slice za zn zc, .int .i64 fk, .slice ga gn gc] 32)) := by rw [hv7]; exact blk_new _ _
    have U7 : Hid (Below w.heap.size w v7) := up_trans (up_trans UU.out c6.out) V7.out
    have r0 := blk_cell B7.out 0 _ rfl
    clear hv7
    by_cases hq : q = 0
    · subst hq
      have HE7 : Hid (EntsR v7 (.slice za zn zc) L) := EntsR.up (Rws.own hz.out.2) V7.out
      clear HZ hz hg c6
      go_upto_region 15 with fail
      rw [HV7.out]
      go_wp2_with fail
      refine (HN.out _ _).mono ?_
      rintro e w7 ⟨rfl, rfl⟩
      go_wp2_with fail
      refine (H2.out trivial _ _ HE7.out).mono ?_
      rintro e w8 ⟨ua, un, uc, rfl, OG, b8⟩
      have U8 : Hid (Below w.heap.size w w8) := up_trans U7.out b8.out
      go_wp2_with fail
      refine (HN.out _ _).mono ?_
      rintro e w9 ⟨rfl, rfl⟩
      have HSB := sameB_law B _ _ _ OG.out (HB.out.up U8.out)
      go_wp2_with fail
      refine HSB.mono ?_
      rintro e w10 ⟨rfl, rfl⟩
      clear HSB
      go_wp2
      go_ret
      exact ⟨rfl, U8.out⟩
    · have hq1 : (q == 0) = false := by simp [hq]
      have hq2 : (q != 0) = true := by simp [hq]
      obtain rfl : zn = 0 := by rw [hz.out.1]; exact HZ.out hq
      clear hz hg c6
      go_upto_region 15 with fail
      rw [HV7.out]
      go_wp2_with fail
      refine (HN.out _ _).mono ?_
      rintro e w7 ⟨rfl, rfl⟩
      go_wp2
      go_ret
      exact ⟨rfl, U7.out⟩
end Go.Proofs.Ytekoniaobmapdaa
