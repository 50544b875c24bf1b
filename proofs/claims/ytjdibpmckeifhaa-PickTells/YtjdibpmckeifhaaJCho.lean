/- The program's Choose. -/
import Derived.Test.YtjdibpmckeifhaaJChM
import Derived.Test.YtjdibpmckeifhaaJFullP
import Derived.Test.YtjdibpmckeifhaaJSpan
import Derived.Test.YtjdibpmckeifhaaJLeav
import Derived.Test.YtjdibpmckeifhaaJBot
namespace Go.Proofs.Ytjdibpmckeifhaa
open Go.RowKit
set_option linter.unusedVariables false
set_option linter.unusedSimpArgs false

set_option maxHeartbeats 4000000 in
set_option maxRecDepth 100000 in
theorem choose_any (ts : List Me) (seq next : Int) (va : Option Addr) (vn vc : Nat) (w : World) (hv : MetsR w (.slice va vn vc) ts) :
    Calls Try.prog 11 #[.agg #[.slice va vn vc, .int .i64 seq, .int .i64 next]] w (ChoE w (choM ts seq next)) := by
  obtain ⟨Post, hP⟩ : ∃ Post : Ending → World → Prop, Post = ChoE w (choM ts seq next) := ⟨_, rfl⟩
  have HP : Hid (∀ e w', ChoE w (choM ts seq next) e w' → Post e w') := fun e w' h => by rw [hP]; exact h
  rw [← hP]
  clear hP
  have HV : Hid (MetsR w (.slice va vn vc) ts) := hv
  clear hv
  obtain ⟨w0, hw0⟩ : ∃ w0, w0 = (w.alloc (.cells #[.slice va vn vc, .int .i64 seq, .int .i64 next] 27)).alloc (.cells #[.int .i64 0, .slice none 0 0, .bool false] 36) := ⟨_, rfl⟩
  have HW0 : Hid ((w.alloc (.cells #[.slice va vn vc, .int .i64 seq, .int .i64 next] 27)).alloc (.cells #[.int .i64 0, .slice none 0 0, .bool false] 36) = w0) := hw0.symm
  have U0 : Hid (Below w.heap.size w w0) := by rw [hw0]; exact up_al (up_alloc _ _) _
  have B0 : Hid (w0.heap[w.heap.size]? = some (.cells #[.slice va vn vc, .int .i64 seq, .int .i64 next] 27)) := by rw [hw0]; exact blk_up (blk_new _ _) (up_alloc _ _)
  have B1 : Hid (w0.heap[w.heap.size + 1]? = some (.cells #[.int .i64 0, .slice none 0 0, .bool false] 36)) := by
    rw [hw0]
    have := blk_new (w.alloc (.cells #[.slice va vn vc, .int .i64 seq, .int .i64 next] 27)) (.cells #[.int .i64 0, .slice none 0 0, .bool false] 36)
    rw [show (w.alloc (.cells #[.slice va vn vc, .int .i64 seq, .int .i64 next] 27)).heap.size = w.heap.size + 1 by simp] at this
    exact this
  clear hw0
  have HCF : Hid (Calls Try.prog 9 #[.agg #[.slice va vn vc, .int .i64 seq, .int .i64 next]] w0 (FullE w0 ts seq next)) := full_any ts seq next va vn vc w0 (HV.out.up U0.out)
  have x0 := blk_cell B0.out 0 _ rfl
  have x1 := blk_cell B0.out 1 _ rfl
  have x2 := blk_cell B0.out 2 _ rfl
  go_enter Try.func11, Try.ntmps11
  go_upto_region 1 with fail
  rw [HW0.out]
  clear HW0
  generalize hN1 : w.heap.size + 1 = N1 at *
  have HN1 : Hid (w.heap.size ≤ N1) := by unfold Hid; omega
  have HN2 : Hid (¬ N1 = w.heap.size ∧ ¬ w.heap.size = N1) := by unfold Hid; omega
  clear hN1
  rcases errV_cases ts seq next with hc | hc
  case inr =>
    have HR := hid (cho_err hc)
    replace HCF : Hid (Calls Try.prog 9 #[.agg #[.slice va vn vc, .int .i64 seq, .int .i64 next]] w0 fun e w' => e = .returned (.tuple #[.slice none 0 0, .int .i64 9]) ∧ Hid (Below w0.heap.size w0 w')) := HCF.out.mono (fun e w' h => by unfold FullE at h; rw [if_neg (by rw [hc]; decide)] at h; exact h)
    clear hc
    go_wp2_with fail
    refine HCF.out.mono ?_
    rintro e w1 ⟨rfl, u1⟩
    have U1 := hid (up_trans U0.out u1.out)
    have b1 := hid (blk_up B1.out u1.out)
    have r0 := blk_cell b1.out 0 _ rfl
    have r1 := blk_cell b1.out 1 _ rfl
    have r2 := blk_cell b1.out 2 _ rfl
    have f0 := blk_frozen b1.out 0
    have f1 := blk_frozen b1.out 1
    have f2 := blk_frozen b1.out 2
    go_wp2_with fail
    refine bodyPost_ret (results_plan rfl (.inl rfl) _ _ rfl (set3_blk b1.out _ _ _)) rfl (HP.out _ _ ?_)
    rw [HR.out]
    exact ⟨none, 0, 0, rfl, rfl, Rws.nil 1 _, U1.out.trans (below_grown (set3_grown w1 N1 _ _ _) U1.out.size (fun k hk => by injection hk with hk; have := HN1.out; omega))⟩
  have HC0 := hid hc
  replace HCF : Hid (Calls Try.prog 9 #[.agg #[.slice va vn vc, .int .i64 seq, .int .i64 next]] w0 fun e w' => ∃ a n c, e = .returned (.tuple #[.slice a n c, .int .i64 0]) ∧ Hid (OwnR w' w0.heap.size 3 1 (.slice a n c) ((fullM ts).map irow)) ∧ Hid (Below w0.heap.size w0 w')) := HCF.out.mono (fun e w' h => by unfold FullE at h; rw [if_pos hc] at h; exact h)
  clear hc
  go_wp2_with fail
  refine HCF.out.mono ?_
  rintro e w1 ⟨la, ln, lc, rfl, OF, u1⟩
  have U1 := hid (up_trans U0.out u1.out)
  have b1 := hid (blk_up B1.out u1.out)
  have a1 := hid (blk_up B0.out u1.out)
  have HI : Hid (IntsR w1 (.slice la ln lc) (fullM ts)) := Rws.own OF.out
  have HLN := hid (ints_len HI.out)
  clear u1 OF HCF B0 B1 U0 x0 x1 x2
  clear w0
  cases hf : fullM ts with
  | nil =>
    have HR := hid (cho_none HC0.out hf)
    rw [hf] at HLN
    obtain rfl : ln = 0 := HLN.out
    clear hf
    have r0 := blk_cell b1.out 0 _ rfl
    have r1 := blk_cell b1.out 1 _ rfl
    have r2 := blk_cell b1.out 2 _ rfl
    have f0 := blk_frozen b1.out 0
    have f1 := blk_frozen b1.out 1
    have f2 := blk_frozen b1.out 2
    go_wp2_with fail
    refine bodyPost_ret (results_plan rfl (.inl rfl) _ _ rfl (set3_blk b1.out _ _ _)) rfl (HP.out _ _ ?_)
    rw [HR.out]
    exact ⟨none, 0, 0, rfl, rfl, Rws.nil 1 _, U1.out.trans (below_grown (set3_grown w1 N1 _ _ _) U1.out.size (fun k hk => by injection hk with hk; have := HN1.out; omega))⟩
  | cons lev rest =>
    rw [hf] at HLN HI
    obtain ⟨p, hp⟩ := plan_some hf
    have HR := hid (cho_some HC0.out hf hp)
    have HLV := hid (full_lev hf)
    have HNE := hid (full_at hf)
    obtain ⟨x, r, hch, htop, hlow, hhigh, hbelow, hplev, hbot⟩ := plan_parts hp
    have HPP : Hid (chosenM ts lev = x :: r ∧ p.top = x :: r ∧ p.low = lowM x.low (x :: r) ∧ p.high = highM x.high (x :: r) ∧ p.below = touchM ts (lev + 1) p.low p.high ∧ p.bot = ((touchM ts (lev + 2) (lowM p.low p.below) (highM p.high p.below)).isEmpty && (touchM ts (lev + 3) (lowM p.low p.below) (highM p.high p.below)).isEmpty)) := ⟨hch, htop, hlow, hhigh, hbelow, hbot⟩
    clear hch htop hlow hhigh hbelow hplev hbot hp hf
    obtain ⟨fb, foff, fcap, fx, e, hfx, z0⟩ := HI.out.at 0 (by simp)
    obtain rfl : fx = lev := by simpa using hfx.symm
    simp only [Value.slice.injEq] at e
    obtain ⟨rfl, hln, rfl⟩ := e
    simp only [Nat.add_zero] at z0
    have hln1 : (0 : Int) < (ln : Int) := by rw [hln]; simp
    have hln2 : ((ln : Int) == 0) = false := by rw [beq_eq_false_iff_ne]; omega
    clear hln hfx HLN HI
    have hlv1 : IntKind.i64.wrap (fx + 1) = fx + 1 := by
      rcases HLV.out with q | q | q <;> rw [q] <;> rfl
    have HLV2 : Hid (0 ≤ fx ∧ fx ≤ 2) := by
      have := HLV.out
      unfold Hid
      omega
    have hb1 := HLV2.out.1
    have hb2 := HLV2.out.2
    have y0 := blk_cell a1.out 0 _ rfl
    have y1 := blk_cell a1.out 1 _ rfl
    have y2 := blk_cell a1.out 2 _ rfl
    have HCA : Hid (Calls Try.prog 25 #[.agg #[.slice va vn vc, .int .i64 seq, .int .i64 next], .int .i64 fx] w1 fun e w' => ∃ a n c, e = .returned (.slice a n c) ∧ Hid (OwnR w' w1.heap.size 70 5 (.slice a n c) ((atM ts fx).map meRow)) ∧ Hid (Below w1.heap.size w1 w')) := pat_any ts seq next fx va vn vc w1 (HV.out.up U1.out) HC0.out
    go_wp2_with fail
    refine HCA.out.mono ?_
    rintro e w2 ⟨ra, rn, rc, rfl, O2, u2⟩
    have HLA : Hid (∀ lv, (atM ts lv).length ≤ 256) := fun lv => (cnt_at HC0.out lv).1
    have HC2 := hid (leaving_any fx (atM ts fx) (.slice ra rn rc) w1.heap.size w2 O2.out (by have := HLA.out fx; omega) HNE.out u2.out.size)
    clear HCA O2
    go_wp2_with fail
    refine HC2.out.mono ?_
    rintro e w3 ⟨sa, sn, sc, rfl, O3, u3⟩
    rw [leave_chosen, HPP.out.1] at O3
    have U3 := hid (up_trans u2.out u3.out)
    have HLT : Hid ((x :: r).length ≤ 256) := by
      have h1 : leaveM fx (atM ts fx) = x :: r := by rw [leave_chosen]; exact HPP.out.1
      unfold Hid
      rw [← h1]
      have := HLA.out fx
      unfold leaveM
      split
      · exact this
      · split
        · simp
        · simp
    have HC3 := hid (span_any (x :: r) x r rfl (.slice sa sn sc) w3 (Rws.own O3.out) (by have := HLT.out; omega))
    rw [← HPP.out.2.2.1, ← HPP.out.2.2.2.1] at HC3
    clear HC2 u2 u3
    go_wp2_with fail
    refine HC3.out.mono ?_
    rintro e w4 ⟨rfl, u4⟩
    have U4 := hid (up_trans U3.out u4.out)
    have O4 := hid (O3.out.up u4.out)
    have a4 := hid (blk_up a1.out U4.out)
    clear HC3 O3 U3 u4 y0 y1 y2 z0
    have y0 := blk_cell a4.out 0 _ rfl
    have y1 := blk_cell a4.out 1 _ rfl
    have y2 := blk_cell a4.out 2 _ rfl
    have HCA : Hid (Calls Try.prog 25 #[.agg #[.slice va vn vc, .int .i64 seq, .int .i64 next], .int .i64 (fx + 1)] w4 fun e w' => ∃ a n c, e = .returned (.slice a n c) ∧ Hid (OwnR w' w4.heap.size 70 5 (.slice a n c) ((atM ts (fx + 1)).map meRow)) ∧ Hid (Below w4.heap.size w4 w')) := pat_any ts seq next (fx + 1) va vn vc w4 (HV.out.up (up_trans U1.out U4.out)) HC0.out
    go_wp2_with fail
    refine HCA.out.mono ?_
    rintro e w5 ⟨ra5, rn5, rc5, rfl, O5, u5⟩
    have HC5 := hid (touched_any (atM ts (fx + 1)) p.low p.high (.slice ra5 rn5 rc5) w4.heap.size w5 O5.out (by have := HLA.out (fx + 1); omega) u5.out.size)
    clear HCA O5
    go_wp2_with fail
    refine HC5.out.mono ?_
    rintro e w6 ⟨ra6, rn6, rc6, rfl, HN6, O6, u6⟩
    have HEQ : Hid ((atM ts (fx + 1)).filter (hitM p.low p.high) = p.below) := HPP.out.2.2.2.2.1.symm
    rw [HEQ.out] at O6
    have U6 := hid (u5.out.trans u6.out)
    have U61 := hid (up_trans U4.out U6.out)
    have O46 := hid (O4.out.up U6.out)
    have HLB : Hid (p.below.length ≤ 256) := by
      unfold Hid
      rw [← HEQ.out]
      have := HLA.out (fx + 1)
      have := List.length_filter_le (hitM p.low p.high) (atM ts (fx + 1))
      omega
    have HMR : Hid (Rws 5 w6 (.slice ra6 rn6 rc6) (p.below.map meRow)) := Rws.own O6.out
    have HAP : Hid ((((x :: r).map meRow).length + (p.below.map meRow).length + (((x :: r).map meRow).length + (p.below.map meRow).length) / 4 + 192) * 56 ≤ 281474976710656 ∧ ((x :: r).map meRow).length + (p.below.map meRow).length ≤ maxLen) := by
      have h1 := HLT.out
      have h2 := HLB.out
      unfold Hid maxLen
      rw [List.length_map, List.length_map]
      omega
    have HTT : Hid ((x :: r).map meRow ++ p.below.map meRow = ((x :: r) ++ p.below).map meRow) := by unfold Hid; rw [List.map_append]
    have HO1 := hid (rows_oneM p.below)
    have S6 : Hid (w1.heap.size ≤ w6.heap.size) := U61.out.size
    have a6 := hid (blk_up a1.out U61.out)
    have b6 := hid (blk_up b1.out U61.out)
    obtain ⟨T2, hT2⟩ : ∃ T2, ((x :: r) ++ p.below).map meRow = T2 := ⟨_, rfl⟩
    rw [hT2] at HTT
    have HT2 := hid hT2
    clear hT2 HC5 O4 O6 u5 u6 HN6 y0 y1 y2 U4 U6 a4
    generalize (x :: r).map meRow = T1 at *
    generalize p.below.map meRow = T3 at *
    go_wp2_with (at_builtin; refine wpList_append_rows w6 rfl _ _ 25 70 _ 5 56 rfl Try.underlying25 Try.info70 rfl (by decide) w1.heap.size (.slice sa sn sc) T1 rfl O46.out (.slice ra6 rn6 rc6) T3 rfl HMR.out HO1.out HAP.out.1 HAP.out.2 S6.out ?_)
    intro v7 w7 O7 G7
    rw [HTT.out] at O7
    obtain ⟨qa, qn, qc, rfl, O8⟩ := rows_shape O7
    have U7 := hid (U61.out.grown G7 U61.out.size (fun k hk => (O46.out.2.lt k hk).1))
    have HLL : Hid (((x :: r) ++ p.below).length ≤ 512) := by
      have h1 := HLT.out
      have h2 := HLB.out
      unfold Hid
      rw [List.length_append]
      omega
    have M7 : Hid (MetsR w7 (.slice qa qn qc) ((x :: r) ++ p.below)) := by
      unfold Hid MetsR
      rw [HT2.out]
      exact Rws.own O8.out
    have HC8 := hid (span_any ((x :: r) ++ p.below) x (r ++ p.below) rfl (.slice qa qn qc) w7 M7.out (by have := HLL.out; omega))
    rw [lowM_app, highM_app, ← HPP.out.2.2.1, ← HPP.out.2.2.2.1] at HC8
    clear O7 G7 O8 O46 HMR HAP HTT HO1 S6 a6 b6 HT2 U61
    clear w6
    go_wp2_with fail
    refine HC8.out.mono ?_
    rintro e w8 ⟨rfl, u8⟩
    have U8 := hid (up_trans U7.out u8.out)
    have a8 := hid (blk_up a1.out U8.out)
    have b8 := hid (blk_up b1.out U8.out)
    have M8 := hid (M7.out.up u8.out)
    have UW8 := hid (up_trans U1.out U8.out)
    have HV8 := hid (HV.out.up UW8.out)
    have HBP := hid (botB_plan HC0.out fx HLV.out (lowM p.low p.below) (highM p.high p.below))
    rw [← HPP.out.2.2.2.2.2] at HBP
    clear HC8 u8 U7 M7 a1 b1
    clear w7
    have y0 := blk_cell a8.out 0 _ rfl
    have y1 := blk_cell a8.out 1 _ rfl
    have y2 := blk_cell a8.out 2 _ rfl
    have HIDS : Hid (Calls Try.prog 30 #[.slice qa qn qc] w8.drew fun e w' => ∃ a n c, e = .returned (.slice a n c) ∧ Hid (OwnR w' w8.heap.size 3 1 (.slice a n c) (idR ((x :: r) ++ p.below))) ∧ w'.cell? ⟨w.heap.size, 0, none⟩ = some (.slice va vn vc) ∧ w'.cell? ⟨w.heap.size, 1, none⟩ = some (.int .i64 seq) ∧ w'.cell? ⟨w.heap.size, 2, none⟩ = some (.int .i64 next) ∧ Hid (Below w8.heap.size w8 w')) := by
      have u : Below w8.heap.size w8 w8.drew := up_dr (Below.refl _ _)
      refine (ids_any ((x :: r) ++ p.below) _ w8.drew (M8.out.up u) (by have := HLL.out; omega)).mono ?_
      rintro e w' ⟨a, n, c, rfl, hO, hb⟩
      have u2 := up_trans u hb.out
      have b0 := blk_up a8.out u2
      exact ⟨a, n, c, rfl, hO.out, blk_cell b0 0 _ rfl, blk_cell b0 1 _ rfl, blk_cell b0 2 _ rfl, u2⟩
    have HBOT : Hid (∀ W, Below w8.heap.size w8 W → Calls Try.prog 31 #[.agg #[.slice va vn vc, .int .i64 seq, .int .i64 next], .int .i64 (fx + 1), .string (lowM p.low p.below), .string (highM p.high p.below)] W fun e w' => e = .returned (.bool p.bot) ∧ w'.cell? ⟨w.heap.size, 0, none⟩ = some (.slice va vn vc) ∧ w'.cell? ⟨w.heap.size, 1, none⟩ = some (.int .i64 seq) ∧ w'.cell? ⟨w.heap.size, 2, none⟩ = some (.int .i64 next) ∧ Hid (w'.heap[N1]? = some (.cells #[.int .i64 0, .slice none 0 0, .bool false] 36)) ∧ Hid (Below W.heap.size W w')) := by
      intro W hW
      refine (isBottom_any ts seq next (fx + 1) _ _ va vn vc W (HV8.out.up hW) HC0.out).mono ?_
      rintro e w' ⟨rfl, hb⟩
      have u2 := up_trans hW hb.out
      have b0 := blk_up a8.out u2
      rw [HBP.out]
      exact ⟨rfl, blk_cell b0 0 _ rfl, blk_cell b0 1 _ rfl, blk_cell b0 2 _ rfl, blk_up b8.out u2, hb⟩
    clear HBP
    have HFT : Hid ((p.top ++ p.below).map (·.id) = ((x :: r) ++ p.below).map (·.id)) := by unfold Hid; rw [HPP.out.2.1]
    go_wp2_with fail
    generalize lowM p.low p.below = LO at *
    generalize highM p.high p.below = HI at *
    have hn1 := HN2.out.1
    have hn2 := HN2.out.2
    go_region_held3 (fun w' => w'.cell? ⟨w.heap.size, 0, none⟩ = some (.slice va vn vc) ∧ w'.cell? ⟨w.heap.size, 1, none⟩ = some (.int .i64 seq) ∧ w'.cell? ⟨w.heap.size, 2, none⟩ = some (.int .i64 next)) (first | with_reducible exact ⟨y0, y1, y2⟩ | with_reducible exact ⟨k0, k1, k2⟩ | with_reducible exact ⟨z0, z1, z2⟩ | (simp [go_sem, y0, y1, y2]; done) | (simp [go_sem, k0, k1, k2, hn1, hn2]; done)) (first
      | (go_at_call 30; with_reducible refine HIDS.out.mono ?_; rintro e w9 ⟨ia, iN, ic, rfl, O9, z0, z1, z2, u9⟩)
      | (go_at_call 31; with_reducible refine (HBOT.out w9 u9.out).mono ?_; rintro e wt ⟨rfl, k0, k1, k2, bt, ut⟩; have r0 := blk_cell bt.out 0 _ rfl; have r1 := blk_cell bt.out 1 _ rfl; have r2 := blk_cell bt.out 2 _ rfl; have f0 := blk_frozen bt.out 0; have f1 := blk_frozen bt.out 1; have f2 := blk_frozen bt.out 2))
    all_goals
      go_wp2_with fail
      refine bodyPost_ret (results_plan rfl (.inl rfl) _ _ rfl (set3_blk bt.out _ _ _)) rfl (HP.out _ _ ?_)
      have OT := O9.out.up ut.out
      have OT2 := OwnR.far OT (set3_grown wt N1 (.int .i64 fx) (.slice ia iN ic) (.bool p.bot)) (own_blk_ne OT.2 bt.out (by decide))
      have IT : IntsR _ (.slice ia iN ic) (((x :: r) ++ p.below).map (·.id)) := Rws.own OT2
      have UT := up_trans UW8.out (up_trans u9.out ut.out)
      rw [HR.out, HFT.out]
      exact ⟨ia, iN, ic, rfl, ints_len IT, IT, UT.trans (below_grown (set3_grown wt N1 _ _ _) UT.size (fun k hk => by injection hk with hk; have := HN1.out; omega))⟩
end Go.Proofs.Ytjdibpmckeifhaa
