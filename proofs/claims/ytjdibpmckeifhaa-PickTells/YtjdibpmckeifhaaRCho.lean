/- The document's Choose. -/
import Derived.Test.YtjdibpmckeifhaaRChI
import Derived.Test.YtjdibpmckeifhaaJFullR
import Derived.Test.YtjdibpmckeifhaaRTch
import Derived.Test.YtjdibpmckeifhaaRChs
import Derived.Test.YtjdibpmckeifhaaJMin
namespace Go.Proofs.Ytjdibpmckeifhaa
open Go.RowKit
set_option linter.unusedVariables false
set_option linter.unusedSimpArgs false

set_option maxHeartbeats 4000000 in
set_option maxRecDepth 100000 in
theorem refChoose_any (ts : List Me) (seq next : Int) (va : Option Addr) (vn vc : Nat) (w : World) (hv : MetsR w (.slice va vn vc) ts) :
    Calls Try.prog 12 #[.agg #[.slice va vn vc, .int .i64 seq, .int .i64 next]] w (ChoE w (choM ts seq next)) := by
  obtain ⟨Post, hP⟩ : ∃ Post : Ending → World → Prop, Post = ChoE w (choM ts seq next) := ⟨_, rfl⟩
  have HP : Hid (∀ e w', ChoE w (choM ts seq next) e w' → Post e w') := fun e w' h => by rw [hP]; exact h
  rw [← hP]
  clear hP
  have HV : Hid (MetsR w (.slice va vn vc) ts) := hv
  clear hv
  obtain ⟨w0, hw0⟩ : ∃ w0, w0 = (w.alloc (.cells #[.slice va vn vc, .int .i64 seq, .int .i64 next] 24)).alloc (.cells #[.int .i64 0, .slice none 0 0, .bool false] 39) := ⟨_, rfl⟩
  have HW0 : Hid ((w.alloc (.cells #[.slice va vn vc, .int .i64 seq, .int .i64 next] 24)).alloc (.cells #[.int .i64 0, .slice none 0 0, .bool false] 39) = w0) := hw0.symm
  have U0 : Hid (Below w.heap.size w w0) := by rw [hw0]; exact up_al (up_alloc _ _) _
  have B0 : Hid (w0.heap[w.heap.size]? = some (.cells #[.slice va vn vc, .int .i64 seq, .int .i64 next] 24)) := by rw [hw0]; exact blk_up (blk_new _ _) (up_alloc _ _)
  have B1 : Hid (w0.heap[w.heap.size + 1]? = some (.cells #[.int .i64 0, .slice none 0 0, .bool false] 39)) := by
    rw [hw0]
    have := blk_new (w.alloc (.cells #[.slice va vn vc, .int .i64 seq, .int .i64 next] 24)) (.cells #[.int .i64 0, .slice none 0 0, .bool false] 39)
    rw [show (w.alloc (.cells #[.slice va vn vc, .int .i64 seq, .int .i64 next] 24)).heap.size = w.heap.size + 1 by simp] at this
    exact this
  clear hw0
  have HCF : Hid (Calls Try.prog 10 #[.agg #[.slice va vn vc, .int .i64 seq, .int .i64 next]] w0 (FullE w0 ts seq next)) := refFull_any ts seq next va vn vc w0 (HV.out.up U0.out)
  have x0 := blk_cell B0.out 0 _ rfl
  have x1 := blk_cell B0.out 1 _ rfl
  have x2 := blk_cell B0.out 2 _ rfl
  go_enter Try.func12, Try.ntmps12
  go_upto_region 1 with fail
  rw [HW0.out]
  clear HW0
  generalize hN1 : w.heap.size + 1 = N1 at *
  have HN1 : Hid (w.heap.size ≤ N1) := by unfold Hid; omega
  have HN2 : Hid (¬ N1 = w.heap.size ∧ ¬ w.heap.size = N1) := by unfold Hid; omega
  clear hN1
  rcases errV_cases ts seq next with hc | hc
  case inr =>
    have HR := hid (cho_err hc)
    replace HCF : Hid (Calls Try.prog 10 #[.agg #[.slice va vn vc, .int .i64 seq, .int .i64 next]] w0 fun e w' => e = .returned (.tuple #[.slice none 0 0, .int .i64 9]) ∧ Hid (Below w0.heap.size w0 w')) := HCF.out.mono (fun e w' h => by unfold FullE at h; rw [if_neg (by rw [hc]; decide)] at h; exact h)
    clear hc
    go_wp2_with fail
    refine HCF.out.mono ?_
    rintro e w1 ⟨rfl, u1⟩
    have U1 := hid (up_trans U0.out u1.out)
    have b1 := hid (blk_up B1.out u1.out)
    have r0 := blk_cell b1.out 0 _ rfl
    have r1 := blk_cell b1.out 1 _ rfl
    have r2 := blk_cell b1.out 2 _ rfl
    have f0 := blk_frozen b1.out 0
    have f1 := blk_frozen b1.out 1
    have f2 := blk_frozen b1.out 2
    go_wp2_with fail
    refine bodyPost_ret (results_plan rfl (.inr rfl) _ _ rfl (set3_blk b1.out _ _ _)) rfl (HP.out _ _ ?_)
    rw [HR.out]
    exact ⟨none, 0, 0, rfl, rfl, Rws.nil 1 _, U1.out.trans (below_grown (set3_grown w1 N1 _ _ _) U1.out.size (fun k hk => by injection hk with hk; have := HN1.out; omega))⟩
  have HC0 := hid hc
  replace HCF : Hid (Calls Try.prog 10 #[.agg #[.slice va vn vc, .int .i64 seq, .int .i64 next]] w0 fun e w' => ∃ a n c, e = .returned (.tuple #[.slice a n c, .int .i64 0]) ∧ Hid (OwnR w' w0.heap.size 3 1 (.slice a n c) ((fullM ts).map irow)) ∧ Hid (Below w0.heap.size w0 w')) := HCF.out.mono (fun e w' h => by unfold FullE at h; rw [if_pos hc] at h; exact h)
  clear hc
  go_wp2_with fail
  refine HCF.out.mono ?_
  rintro e w1 ⟨la, ln, lc, rfl, OF, u1⟩
  have U1 := hid (up_trans U0.out u1.out)
  have b1 := hid (blk_up B1.out u1.out)
  have a1 := hid (blk_up B0.out u1.out)
  have HI : Hid (IntsR w1 (.slice la ln lc) (fullM ts)) := Rws.own OF.out
  have HLN := hid (ints_len HI.out)
  clear u1 OF HCF B0 B1 U0 x0 x1 x2
  clear w0
  cases hf : fullM ts with
  | nil =>
    have HR := hid (cho_none HC0.out hf)
    rw [hf] at HLN
    obtain rfl : ln = 0 := HLN.out
    clear hf
    have r0 := blk_cell b1.out 0 _ rfl
    have r1 := blk_cell b1.out 1 _ rfl
    have r2 := blk_cell b1.out 2 _ rfl
    have f0 := blk_frozen b1.out 0
    have f1 := blk_frozen b1.out 1
    have f2 := blk_frozen b1.out 2
    go_wp2_with fail
    refine bodyPost_ret (results_plan rfl (.inr rfl) _ _ rfl (set3_blk b1.out _ _ _)) rfl (HP.out _ _ ?_)
    rw [HR.out]
    exact ⟨none, 0, 0, rfl, rfl, Rws.nil 1 _, U1.out.trans (below_grown (set3_grown w1 N1 _ _ _) U1.out.size (fun k hk => by injection hk with hk; have := HN1.out; omega))⟩
  | cons lev rest =>
    rw [hf] at HLN HI
    obtain ⟨p, hp⟩ := plan_some hf
    have HR := hid (cho_some HC0.out hf hp)
    have HLV := hid (full_lev hf)
    have HNE := hid (full_at hf)
    obtain ⟨x, r, hch, htop, hlow, hhigh, hbelow, hplev, hbot⟩ := plan_parts hp
    have HPP : Hid (chosenM ts lev = x :: r ∧ p.top = x :: r ∧ p.low = lowM x.low (x :: r) ∧ p.high = highM x.high (x :: r) ∧ p.below = touchM ts (lev + 1) p.low p.high ∧ p.bot = ((touchM ts (lev + 2) (lowM p.low p.below) (highM p.high p.below)).isEmpty && (touchM ts (lev + 3) (lowM p.low p.below) (highM p.high p.below)).isEmpty)) := ⟨hch, htop, hlow, hhigh, hbelow, hbot⟩
    clear hch htop hlow hhigh hbelow hplev hbot hp hf
    obtain ⟨fb, foff, fcap, fx, e, hfx, z0⟩ := HI.out.at 0 (by simp)
    obtain rfl : fx = lev := by simpa using hfx.symm
    simp only [Value.slice.injEq] at e
    obtain ⟨rfl, hln, rfl⟩ := e
    simp only [Nat.add_zero] at z0
    have hln1 : (0 : Int) < (ln : Int) := by rw [hln]; simp
    have hln2 : ((ln : Int) == 0) = false := by rw [beq_eq_false_iff_ne]; omega
    clear hln hfx HLN HI
    have HLV2 : Hid (0 ≤ fx ∧ fx ≤ 2) := by
      have := HLV.out
      unfold Hid
      omega
    have hb1 := HLV2.out.1
    have hb2 := HLV2.out.2
    have UP : Hid (Below w1.heap.size w1 (w1.alloc (.cells #[.int .i64 fx, .slice none 0 0, .bool true] 39))) := up_alloc _ _
    have PP : Hid ((w1.alloc (.cells #[.int .i64 fx, .slice none 0 0, .bool true] 39)).heap[w1.heap.size]? = some (.cells #[.int .i64 fx, .slice none 0 0, .bool true] 39)) := blk_new _ _
    obtain ⟨wp, hwp⟩ : ∃ wp, wp = w1.alloc (.cells #[.int .i64 fx, .slice none 0 0, .bool true] 39) := ⟨_, rfl⟩
    have HWP : Hid (w1.alloc (.cells #[.int .i64 fx, .slice none 0 0, .bool true] 39) = wp) := hwp.symm
    rw [← hwp] at UP PP
    clear hwp
    go_upto_region 5 with fail
    rw [HWP.out]
    clear HWP z0
    have NP1 : Hid (w.heap.size ≠ w1.heap.size ∧ N1 ≠ w1.heap.size ∧ w.heap.size ≤ w1.heap.size) := ⟨Nat.ne_of_lt (blk_lt a1.out), Nat.ne_of_lt (blk_lt b1.out), Nat.le_of_lt (blk_lt a1.out)⟩
    have aP := hid (blk_up a1.out UP.out)
    have bP := hid (blk_up b1.out UP.out)
    have UWP := hid (up_trans U1.out UP.out)
    clear a1 b1 U1 UP
    generalize w1.heap.size = NP at *
    clear w1
    have y0 := blk_cell aP.out 0 _ rfl
    have y1 := blk_cell aP.out 1 _ rfl
    have y2 := blk_cell aP.out 2 _ rfl
    have p0 := blk_cell PP.out 0 _ rfl
    have HCC := hid (refChosen_any ts seq next fx va vn vc wp (HV.out.up UWP.out) HC0.out HNE.out)
    go_wp2_with fail
    refine HCC.out.mono ?_
    rintro e w2 ⟨ca, cn, cc, rfl, HM, u2, HGE⟩
    rw [HPP.out.1] at HM
    have a2 := hid (blk_up aP.out u2.out)
    have b2 := hid (blk_up bP.out u2.out)
    have U2 := hid (up_trans UWP.out u2.out)
    have PP2 := hid (blk_up PP.out u2.out)
    have HGN : Hid (∀ g, (Value.slice ca cn cc).ownBlock = some g → g ≠ NP) := fun g hg => by have h1 := HGE.out g hg; have h2 := blk_lt PP.out; omega
    have C2 : Hid (ChI w2 w2 NP fx none 0 0 [] true) := ⟨PP2.out, OwnR.nil _ _ _ _, grown_refl _ _, blk_lt PP2.out⟩
    clear y0 y1 y2 p0 HCC u2 HGE aP bP PP PP2 UWP
    clear wp
    have HLT : Hid ((x :: r).length ≤ 256) := by
      have h1 : leaveM fx (atM ts fx) = x :: r := by rw [leave_chosen]; exact HPP.out.1
      have h2 : (atM ts fx).length ≤ 256 := (cnt_at HC0.out fx).1
      unfold Hid
      rw [← h1]
      unfold leaveM
      split
      · exact h2
      · split
        · simp
        · simp
    obtain ⟨l, hl⟩ : ∃ l, l = x :: r := ⟨_, rfl⟩
    have HL := hid hl
    rw [← hl] at HM HLT
    obtain ⟨rb, roff, rcap, x', e, hx', m0, m1, m2, m3, m4⟩ := HM.out.at 0 (by rw [hl]; simp)
    obtain rfl : x' = x := by rw [hl] at hx'; simpa using hx'.symm
    have hll : l.length ≤ 256 := HLT.out
    have hl0 : (0 : Int) < (l.length : Int) := by rw [hl]; simp
    simp only [Value.slice.injEq] at e
    obtain ⟨rfl, hcn, rfl⟩ := e
    subst hcn
    clear hx' hl
    simp only [Nat.zero_mul, Nat.add_zero] at m0 m1 m2 m3 m4
    have HS1 : Hid (∀ k y, l[k]? = some y → lowM x'.low (l.take (k + 1)) = minK (lowM x'.low (l.take k)) y.low) := fun k y h => by rw [List.take_add_one, h]; exact lowM_snoc _ _ _
    have HS2 : Hid (∀ k y, l[k]? = some y → highM x'.high (l.take (k + 1)) = maxK (highM x'.high (l.take k)) y.high) := fun k y h => by rw [List.take_add_one, h]; exact highM_snoc _ _ _
    have HS3 : Hid (∀ k y, l[k]? = some y → idR (l.take k) ++ [[.int .i64 y.id]] = idR (l.take (k + 1))) := fun k y h => by unfold idR; rw [List.take_add_one, h, List.map_append, List.map_append]; rfl
    have HS4 : Hid (∀ k, (idR (l.take k)).length ≤ 256) := fun k => by unfold idR; rw [List.length_map, List.length_map, List.length_take]; have := HLT.out; omega
    go_wp2_with fail
    go_quiet (fail)
    go_wp2_with fail
    clear m0 m1 m2 m3 m4
    have C3 := hid (C2.out.up (up_drewN w2 nq))
    clear C2
    generalize w2.drewN nq = wz at *
    go_loopw [9, 10, 11] (fun o q i wr => ∃ (k : Nat) (ao : Option Addr) (no co : Nat), k ≤ l.length ∧ i = .int .i64 k ∧ o = .string (lowM x'.low (l.take k)) ∧ q = .string (highM x'.high (l.take k)) ∧ Hid (ChI w2 wr NP fx ao no co (idR (l.take k)) true)) (fun _ _ i _ => l.length - (intOf i).toNat)
    case atStart => exact ⟨0, none, 0, 0, Nat.zero_le _, rfl, rfl, rfl, C3⟩
    case round =>
      clear C3
      clear wz
      obtain ⟨k, ao, no, co, hk, rfl, rfl, rfl, HCI⟩ := hrel
      by_cases hlt : k < l.length
      · have hlt' : (k : Int) < (l.length : Int) := by omega
        have HMr := hid (HCI.out.rows HM.out HGN.out)
        obtain ⟨b', off', cap', x, e, hx, m0, m1, m2, m3, m4⟩ := HMr.out.at k hlt
        simp only [Value.slice.injEq, Option.some.injEq, Addr.mk.injEq] at e
        obtain ⟨⟨rfl, rfl, _⟩, _, rfl⟩ := e
        have E1 := hid (HS1.out k x hx)
        have E2' := hid (HS2.out k x hx)
        have HT := hid (HS3.out k x hx)
        have HBN : Hid (((idR (l.take k)).length + [[Value.int .i64 x.id]].length + ((idR (l.take k)).length + [[Value.int .i64 x.id]].length) / 4 + 192) * 8 ≤ 281474976710656 ∧ (idR (l.take k)).length + [[Value.int .i64 x.id]].length ≤ maxLen) := by
          have := HS4.out k
          unfold Hid maxLen
          simp only [List.length_cons, List.length_nil]
          omega
        have HON : Hid (∀ cs ∈ ([[.int .i64 x.id]] : List (List Value)), ∀ u ∈ cs, u.oneCell' = true) := by
          intro cs hcs u hu
          simp at hcs
          subst hcs
          simp at hu
          subst hu
          rfl
        clear hx
        generalize lowM x'.low (l.take k) = LL at *
        generalize highM x'.high (l.take k) = HH at *
        have M1 := fun (w : World) ts t => run_minK (P := Try.prog) w ts t LL x.low
        have M2 := fun (w : World) ts t => run_maxK (P := Try.prog) w ts t HH x.high
        rw [← E1.out] at M1
        rw [← E2'.out] at M2
        obtain ⟨LN, hLN⟩ : ∃ LN, lowM x'.low (l.take (k + 1)) = LN := ⟨_, rfl⟩
        obtain ⟨HN, hHN⟩ : ∃ HN, highM x'.high (l.take (k + 1)) = HN := ⟨_, rfl⟩
        rw [hLN] at M1
        rw [hHN] at M2
        clear E1 E2'
        have E1 := hid hLN
        have E2' := hid hHN
        clear hLN hHN
        obtain ⟨T2, hT2⟩ : ∃ T2, idR (l.take (k + 1)) = T2 := ⟨_, rfl⟩
        rw [hT2] at HT
        have HT2 := hid hT2
        clear hT2
        generalize idR (l.take k) = T1 at *
        have MX : Hid (∀ W, Below wr.heap.size wr W → W.cell? ⟨rb, roff + k * 5, none⟩ = some (.int .i64 x.id)) := fun W h => (h.cell (World.block_lt_of_cell? wr _ m0)).trans m0
        go_wp2_with fail
        go_quiet (fail)
        have EQ := hid (HCI.out.up (up_drewN wr nq))
        have MXq : Hid (∀ W, Below (wr.drewN nq).heap.size (wr.drewN nq) W → W.cell? ⟨rb, roff + k * 5, none⟩ = some (.int .i64 x.id)) := fun W h => MX.out W (up_trans (up_drewN wr nq) h)
        clear MX m0 m1 m2 m3 m4 HMr HCI
        have MX := MXq
        clear MXq
        generalize wr.drewN nq = wq at *
        go_wp2_with fail
        refine wp_region_held_drew (S := (fun _ => True)) (by kernel_rfl) (by (try dsimp only); (try exact trivial)) (fun hHeld => ?_)
        have E0 := hid (EQ.out.up (up_dr (Below.refl wq.heap.size wq)))
        have MX0 := hid (MX.out _ (up_dr (Below.refl wq.heap.size wq)))
        generalize wq.drew = wd at *
        refine wpAnyH_take (i := 0) (v := ?_) rfl (by kernel_rfl) (by kernel_rfl) (by kernel_rfl) (fun _ _ _ h => h) (Or.inl ⟨by kernel_rfl, ?_⟩) (by assumption) ?_
        rotate_left
        focus (intro w hSw; (try dsimp only at hSw); go_simp; (try with_reducible rfl); done)
        try simp only [Act.put, List.getElem_toArray, List.getElem_cons_zero, List.getElem_cons_succ, List.setIfInBounds_toArray, List.set_cons_zero, List.set_cons_succ]
        refine wpAnyH_take (i := 2) (v := ?_) rfl (by kernel_rfl) (by kernel_rfl) (by kernel_rfl) (fun _ _ _ h => h) (Or.inl ⟨by kernel_rfl, ?_⟩) (by assumption) ?_
        rotate_left
        focus (intro w hSw; (try dsimp only at hSw); go_simp; (try with_reducible rfl); done)
        try simp only [Act.put, List.getElem_toArray, List.getElem_cons_zero, List.getElem_cons_succ, List.setIfInBounds_toArray, List.set_cons_zero, List.set_cons_succ]
        refine wpAnyH_take (i := 3) (v := ?_) rfl (by kernel_rfl) (by kernel_rfl) (by kernel_rfl) (fun _ _ _ h => h) (Or.inl ⟨by kernel_rfl, ?_⟩) (by assumption) ?_
        rotate_left
        focus (intro w hSw; (try dsimp only at hSw); go_simp; (try with_reducible rfl); done)
        try simp only [Act.put, List.getElem_toArray, List.getElem_cons_zero, List.getElem_cons_succ, List.setIfInBounds_toArray, List.set_cons_zero, List.set_cons_succ]
        refine wpAnyH_take (i := 4) (v := ?_) rfl (by kernel_rfl) (by kernel_rfl) (by kernel_rfl) (fun _ _ _ h => h) (Or.inl ⟨by kernel_rfl, ?_⟩) (by assumption) ?_
        rotate_left
        focus (intro w hSw; (try dsimp only at hSw); go_simp; (try with_reducible rfl); done)
        try simp only [Act.put, List.getElem_toArray, List.getElem_cons_zero, List.getElem_cons_succ, List.setIfInBounds_toArray, List.set_cons_zero, List.set_cons_succ]
        refine wpAnyH_take (i := 5) (v := ?_) rfl (by kernel_rfl) (by kernel_rfl) (by kernel_rfl) (fun _ _ _ h => h) (Or.inl ⟨by kernel_rfl, ?_⟩) (by assumption) ?_
        rotate_left
        focus (intro w hSw; (try dsimp only at hSw); go_simp; (try with_reducible rfl); done)
        try simp only [Act.put, List.getElem_toArray, List.getElem_cons_zero, List.getElem_cons_succ, List.setIfInBounds_toArray, List.set_cons_zero, List.set_cons_succ]
        refine wpAnyH_ready (rs := [1, 6]) (by kernel_rfl) (by simp) ?_
        refine AllReadyH.cons rfl (fun K hK => ?_) (AllReadyH.cons rfl (fun K hK => ?_) AllReadyH.nil)
        · skip
          have q1 := blk_cell E0.out.bp 1 _ rfl
          go_simp
          refine hK.out _ _ (by (try dsimp only); (try exact trivial)) (fun hHeld => ?_)
          clear hK K
          try simp only [Act.put, List.getElem_toArray, List.getElem_cons_zero, List.getElem_cons_succ, List.setIfInBounds_toArray, List.set_cons_zero, List.set_cons_succ]
          clear q1
          refine wpAnyH_ready (rs := [6]) (by kernel_rfl) (by simp) ?_
          refine AllReadyH.cons rfl (fun K hK => ?_) AllReadyH.nil
          have q6 := MX0.out
          go_simp
          refine hK.out _ _ (by (try dsimp only); (try exact trivial)) (fun hHeld => ?_)
          clear hK K
          try simp only [Act.put, List.getElem_toArray, List.getElem_cons_zero, List.getElem_cons_succ, List.setIfInBounds_toArray, List.set_cons_zero, List.set_cons_succ]
          clear q6
          refine wpAnyH_ready (rs := [7]) (by kernel_rfl) (by simp) ?_
          refine AllReadyH.cons rfl (fun K hK => ?_) AllReadyH.nil
          have E2 := hid (E0.out.up (up_alloc wd (.cells #[.int .i64 x.id] 3)))
          go_simp
          refine hK.out _ _ (by (try dsimp only); (try exact trivial)) (fun hHeld => ?_)
          clear hK K
          try simp only [Act.put, List.getElem_toArray, List.getElem_cons_zero, List.getElem_cons_succ, List.setIfInBounds_toArray, List.set_cons_zero, List.set_cons_succ]
          refine wpAnyH_ready (rs := [8]) (by kernel_rfl) (by simp) ?_
          refine AllReadyH.cons rfl (fun K hK => ?_) AllReadyH.nil
          refine step_append_rows _ rfl (.tmp 71) (.tmp 77) 29 3 (.int .i64 0) 1 8 rfl Try.underlying29 Try.info3 rfl (by decide) w2.heap.size (.slice ao no co) T1 rfl E2.out.ow _ [[.int .i64 x.id]] rfl (row_made wd 3 [.int .i64 x.id] 1 rfl) HON.out HBN.out.1 HBN.out.2 E2.out.gr.size ?_
          intro v6 w6 o6 g6
          obtain ⟨a6, n6, c6, rfl, O6⟩ := rows_shape o6
          have K6 := E2.out.kept g6
          rw [HT.out] at O6
          have E3 := hid (E2.out.app g6 O6.out)
          clear o6 g6 O6
          refine hK.out _ _ (by (try dsimp only); (try exact trivial)) (fun hHeld => ?_)
          clear hK K
          try simp only [Act.put, List.getElem_toArray, List.getElem_cons_zero, List.getElem_cons_succ, List.setIfInBounds_toArray, List.set_cons_zero, List.set_cons_succ]
          refine wpAnyH_take (i := 9) (v := ?_) rfl (by kernel_rfl) (by kernel_rfl) (by kernel_rfl) (fun _ _ _ h => h) (Or.inl ⟨by kernel_rfl, ?_⟩) (by assumption) ?_
          rotate_left
          focus (intro w hSw; (try dsimp only at hSw); go_simp; (try with_reducible rfl); done)
          try simp only [Act.put, List.getElem_toArray, List.getElem_cons_zero, List.getElem_cons_succ, List.setIfInBounds_toArray, List.set_cons_zero, List.set_cons_succ]
          refine wpAnyH_ready (rs := [10]) (by kernel_rfl) (by simp) ?_
          refine AllReadyH.cons rfl (fun K hK => ?_) AllReadyH.nil
          have q2 := blk_cell K6 1 _ rfl
          have q3 := blk_frozen K6 1
          go_simp
          refine hK.out _ _ (by (try dsimp only); (try exact trivial)) (fun hHeld => ?_)
          clear hK K
          try simp only [Act.put, List.getElem_toArray, List.getElem_cons_zero, List.getElem_cons_succ, List.setIfInBounds_toArray, List.set_cons_zero, List.set_cons_succ]
          refine wpAnyH_done (by kernel_rfl) ?_ _
          clear q2 q3 K6
          generalize HY : World.setCell w6 _ _ = y6 at *
          clear HY
          go_wp2_with fail
          exact ⟨⟨k + 1, a6, n6, c6, by omega, by go_num, by rw [E1.out], by rw [E2'.out], by rw [HT2.out]; exact E3⟩, by simp [intOf]; omega⟩
        · skip
          have q6 := MX0.out
          go_simp
          refine hK.out _ _ (by (try dsimp only); (try exact trivial)) (fun hHeld => ?_)
          clear hK K
          try simp only [Act.put, List.getElem_toArray, List.getElem_cons_zero, List.getElem_cons_succ, List.setIfInBounds_toArray, List.set_cons_zero, List.set_cons_succ]
          clear q6
          refine wpAnyH_ready (rs := [1, 7]) (by kernel_rfl) (by simp) ?_
          refine AllReadyH.cons rfl (fun K hK => ?_) (AllReadyH.cons rfl (fun K hK => ?_) AllReadyH.nil)
          · skip
            have q1 := blk_cell E0.out.bp 1 _ rfl
            go_simp
            refine hK.out _ _ (by (try dsimp only); (try exact trivial)) (fun hHeld => ?_)
            clear hK K
            try simp only [Act.put, List.getElem_toArray, List.getElem_cons_zero, List.getElem_cons_succ, List.setIfInBounds_toArray, List.set_cons_zero, List.set_cons_succ]
            clear q1
            refine wpAnyH_ready (rs := [7]) (by kernel_rfl) (by simp) ?_
            refine AllReadyH.cons rfl (fun K hK => ?_) AllReadyH.nil
            have E2 := hid (E0.out.up (up_alloc wd (.cells #[.int .i64 x.id] 3)))
            go_simp
            refine hK.out _ _ (by (try dsimp only); (try exact trivial)) (fun hHeld => ?_)
            clear hK K
            try simp only [Act.put, List.getElem_toArray, List.getElem_cons_zero, List.getElem_cons_succ, List.setIfInBounds_toArray, List.set_cons_zero, List.set_cons_succ]
            refine wpAnyH_ready (rs := [8]) (by kernel_rfl) (by simp) ?_
            refine AllReadyH.cons rfl (fun K hK => ?_) AllReadyH.nil
            refine step_append_rows _ rfl (.tmp 71) (.tmp 77) 29 3 (.int .i64 0) 1 8 rfl Try.underlying29 Try.info3 rfl (by decide) w2.heap.size (.slice ao no co) T1 rfl E2.out.ow _ [[.int .i64 x.id]] rfl (row_made wd 3 [.int .i64 x.id] 1 rfl) HON.out HBN.out.1 HBN.out.2 E2.out.gr.size ?_
            intro v6 w6 o6 g6
            obtain ⟨a6, n6, c6, rfl, O6⟩ := rows_shape o6
            have K6 := E2.out.kept g6
            rw [HT.out] at O6
            have E3 := hid (E2.out.app g6 O6.out)
            clear o6 g6 O6
            refine hK.out _ _ (by (try dsimp only); (try exact trivial)) (fun hHeld => ?_)
            clear hK K
            try simp only [Act.put, List.getElem_toArray, List.getElem_cons_zero, List.getElem_cons_succ, List.setIfInBounds_toArray, List.set_cons_zero, List.set_cons_succ]
            refine wpAnyH_take (i := 9) (v := ?_) rfl (by kernel_rfl) (by kernel_rfl) (by kernel_rfl) (fun _ _ _ h => h) (Or.inl ⟨by kernel_rfl, ?_⟩) (by assumption) ?_
            rotate_left
            focus (intro w hSw; (try dsimp only at hSw); go_simp; (try with_reducible rfl); done)
            try simp only [Act.put, List.getElem_toArray, List.getElem_cons_zero, List.getElem_cons_succ, List.setIfInBounds_toArray, List.set_cons_zero, List.set_cons_succ]
            refine wpAnyH_ready (rs := [10]) (by kernel_rfl) (by simp) ?_
            refine AllReadyH.cons rfl (fun K hK => ?_) AllReadyH.nil
            have q2 := blk_cell K6 1 _ rfl
            have q3 := blk_frozen K6 1
            go_simp
            refine hK.out _ _ (by (try dsimp only); (try exact trivial)) (fun hHeld => ?_)
            clear hK K
            try simp only [Act.put, List.getElem_toArray, List.getElem_cons_zero, List.getElem_cons_succ, List.setIfInBounds_toArray, List.set_cons_zero, List.set_cons_succ]
            refine wpAnyH_done (by kernel_rfl) ?_ _
            clear q2 q3 K6
            generalize HY : World.setCell w6 _ _ = y6 at *
            clear HY
            go_wp2_with fail
            exact ⟨⟨k + 1, a6, n6, c6, by omega, by go_num, by rw [E1.out], by rw [E2'.out], by rw [HT2.out]; exact E3⟩, by simp [intOf]; omega⟩
          · skip
            have E2 := hid (E0.out.up (up_alloc wd (.cells #[.int .i64 x.id] 3)))
            go_simp
            refine hK.out _ _ (by (try dsimp only); (try exact trivial)) (fun hHeld => ?_)
            clear hK K
            try simp only [Act.put, List.getElem_toArray, List.getElem_cons_zero, List.getElem_cons_succ, List.setIfInBounds_toArray, List.set_cons_zero, List.set_cons_succ]
            refine wpAnyH_ready (rs := [1]) (by kernel_rfl) (by simp) ?_
            refine AllReadyH.cons rfl (fun K hK => ?_) AllReadyH.nil
            have q1 := blk_cell E2.out.bp 1 _ rfl
            go_simp
            refine hK.out _ _ (by (try dsimp only); (try exact trivial)) (fun hHeld => ?_)
            clear hK K
            try simp only [Act.put, List.getElem_toArray, List.getElem_cons_zero, List.getElem_cons_succ, List.setIfInBounds_toArray, List.set_cons_zero, List.set_cons_succ]
            clear q1
            refine wpAnyH_ready (rs := [8]) (by kernel_rfl) (by simp) ?_
            refine AllReadyH.cons rfl (fun K hK => ?_) AllReadyH.nil
            refine step_append_rows _ rfl (.tmp 71) (.tmp 77) 29 3 (.int .i64 0) 1 8 rfl Try.underlying29 Try.info3 rfl (by decide) w2.heap.size (.slice ao no co) T1 rfl E2.out.ow _ [[.int .i64 x.id]] rfl (row_made wd 3 [.int .i64 x.id] 1 rfl) HON.out HBN.out.1 HBN.out.2 E2.out.gr.size ?_
            intro v6 w6 o6 g6
            obtain ⟨a6, n6, c6, rfl, O6⟩ := rows_shape o6
            have K6 := E2.out.kept g6
            rw [HT.out] at O6
            have E3 := hid (E2.out.app g6 O6.out)
            clear o6 g6 O6
            refine hK.out _ _ (by (try dsimp only); (try exact trivial)) (fun hHeld => ?_)
            clear hK K
            try simp only [Act.put, List.getElem_toArray, List.getElem_cons_zero, List.getElem_cons_succ, List.setIfInBounds_toArray, List.set_cons_zero, List.set_cons_succ]
            refine wpAnyH_take (i := 9) (v := ?_) rfl (by kernel_rfl) (by kernel_rfl) (by kernel_rfl) (fun _ _ _ h => h) (Or.inl ⟨by kernel_rfl, ?_⟩) (by assumption) ?_
            rotate_left
            focus (intro w hSw; (try dsimp only at hSw); go_simp; (try with_reducible rfl); done)
            try simp only [Act.put, List.getElem_toArray, List.getElem_cons_zero, List.getElem_cons_succ, List.setIfInBounds_toArray, List.set_cons_zero, List.set_cons_succ]
            refine wpAnyH_ready (rs := [10]) (by kernel_rfl) (by simp) ?_
            refine AllReadyH.cons rfl (fun K hK => ?_) AllReadyH.nil
            have q2 := blk_cell K6 1 _ rfl
            have q3 := blk_frozen K6 1
            go_simp
            refine hK.out _ _ (by (try dsimp only); (try exact trivial)) (fun hHeld => ?_)
            clear hK K
            try simp only [Act.put, List.getElem_toArray, List.getElem_cons_zero, List.getElem_cons_succ, List.setIfInBounds_toArray, List.set_cons_zero, List.set_cons_succ]
            refine wpAnyH_done (by kernel_rfl) ?_ _
            clear q2 q3 K6
            generalize HY : World.setCell w6 _ _ = y6 at *
            clear HY
            go_wp2_with fail
            exact ⟨⟨k + 1, a6, n6, c6, by omega, by go_num, by rw [E1.out], by rw [E2'.out], by rw [HT2.out]; exact E3⟩, by simp [intOf]; omega⟩
      · have hlt' : ¬ (k : Int) < (l.length : Int) := by omega
        obtain rfl : k = l.length := by omega
        rw [List.take_length] at HCI
        rw [List.take_length]
        have HLOW : Hid (lowM x'.low l = p.low ∧ highM x'.high l = p.high) := by
          rw [HL.out]
          exact ⟨HPP.out.2.2.1.symm, HPP.out.2.2.2.1.symm⟩
        rw [HLOW.out.1, HLOW.out.2]
        have UWr := hid (U2.out.grown HCI.out.gr U2.out.size (fun k hk => by injection hk with hk; have := NP1.out.2.2; omega))
        have aR := hid (HCI.out.blk a2.out NP1.out.1)
        have y0 := blk_cell aR.out 0 _ rfl
        have y1 := blk_cell aR.out 1 _ rfl
        have y2 := blk_cell aR.out 2 _ rfl
        have q0 := blk_cell HCI.out.bp 0 _ rfl
        have HEB : Hid ((tchM ts seq next (fx + 1) p.low p.high).map irow = idR p.below) := by
          unfold Hid tchM idR
          rw [if_pos HC0.out, ← HPP.out.2.2.2.2.1]
        have HTC : Hid (Calls Try.prog 14 #[.agg #[.slice va vn vc, .int .i64 seq, .int .i64 next], .int .i64 (fx + 1), .string p.low, .string p.high] wr fun e w' => ∃ a n c, e = .returned (.tuple #[.slice a n c, .int .i64 0]) ∧ Hid (OwnR w' wr.heap.size 3 1 (.slice a n c) (idR p.below)) ∧ Hid (Below wr.heap.size wr w')) := by
          refine (refTouch_any ts seq next (fx + 1) p.low p.high va vn vc wr (HV.out.up UWr.out)).mono ?_
          rintro e w' ⟨a, n, c, rfl, O, u⟩
          rw [HEB.out] at O
          rw [HC0.out]
          exact ⟨a, n, c, rfl, O, u⟩
        go_wp2_with fail
        refine HTC.out.mono ?_
        rintro e w5 ⟨ba, bn, bc, rfl, OB, u5⟩
        have C5 := hid (HCI.out.up u5.out)
        have HAPT : Hid ((Value.slice ba bn bc).ownBlock = none ∨ (Value.slice ba bn bc).ownBlock ≠ (Value.slice ao no co).ownBlock) := by
          cases hq : (Value.slice ba bn bc).ownBlock with
          | none => exact .inl rfl
          | some g =>
            refine .inr (fun e => ?_)
            have h1 := (OB.out.2.lt g hq).1
            have h2 := (HCI.out.ow.2.lt g e.symm).2
            omega
        have HLB : Hid (p.below.length ≤ 256) := by
          have h1 := (cnt_at HC0.out (fx + 1)).1
          have h2 := List.length_filter_le (hitM p.low p.high) (atM ts (fx + 1))
          unfold Hid
          rw [HPP.out.2.2.2.2.1]
          unfold touchM
          omega
        have HAP : Hid (((idR l).length + (idR p.below).length + ((idR l).length + (idR p.below).length) / 4 + 192) * 8 ≤ 281474976710656 ∧ (idR l).length + (idR p.below).length ≤ maxLen) := by
          have h1 := HLT.out
          have h2 := HLB.out
          unfold Hid maxLen idR
          simp only [List.length_map]
          omega
        have HON : Hid (∀ cs ∈ idR p.below, ∀ u ∈ cs, u.oneCell' = true) := by
          unfold idR
          exact one_int _
        have HMB : Hid (Rws 1 w5 (.slice ba bn bc) (idR p.below)) := Rws.own OB.out
        clear HTC y0 y1 y2 q0 aR HEB
        have q1 := blk_cell C5.out.bp 1 _ rfl
        go_wp2_with (at_builtin; refine wpList_append_rows w5 rfl _ _ 29 3 _ 1 8 rfl Try.underlying29 Try.info3 rfl (by decide) w2.heap.size (.slice ao no co) (idR l) rfl C5.out.ow (.slice ba bn bc) (idR p.below) rfl HMB.out HON.out HAP.out.1 HAP.out.2 C5.out.gr.size ?_)
        intro v6 w6 O6 G6
        obtain ⟨a6, n6, c6, rfl, O7⟩ := rows_shape O6
        have K6 := hid (C5.out.kept G6)
        have C7 := hid (C5.out.app G6 O7.out)
        have OB6 := OB.out.far G6 HAPT.out
        have OB7 := hid (OB6.far (grown_set w6 ⟨NP, 1, none⟩ (.slice a6 n6 c6)) (own_blk_ne OB6.2 K6.out (by decide)))
        clear OB6 O6 O7 G6 HMB HAPT q1 C5 HAP HON OB u5
        have r1 := blk_cell K6.out 1 _ rfl
        have f1 := blk_frozen K6.out 1
        obtain ⟨w7, hw7⟩ : ∃ w7, w7 = w6.setCell ⟨NP, 1, none⟩ (.slice a6 n6 c6) := ⟨_, rfl⟩
        have HW7 := hid hw7.symm
        rw [← hw7] at C7 OB7
        clear hw7
        go_upto_region 14 with fail
        rw [HW7.out]
        clear HW7 r1 f1 K6
        have UW7 := hid (U2.out.grown C7.out.gr U2.out.size (fun k hk => by injection hk with hk; have := NP1.out.2.2; omega))
        have a7 := hid (C7.out.blk a2.out NP1.out.1)
        have y0 := blk_cell a7.out 0 _ rfl
        have y1 := blk_cell a7.out 1 _ rfl
        have y2 := blk_cell a7.out 2 _ rfl
        have q0 := blk_cell C7.out.bp 0 _ rfl
        have HCA := hid (rat_any ts seq next (fx + 1) va vn vc w7 (HV.out.up UW7.out) HC0.out)
        clear w6 w5
        go_wp2_with fail
        refine HCA.out.mono ?_
        rintro e w8 ⟨na, nn, nc, rfl, ON, u8⟩
        have C8 := hid (C7.out.up u8.out)
        obtain ⟨IDB, hIDB⟩ : ∃ IDB, IDB = p.below.map (·.id) := ⟨_, rfl⟩
        have HIDB := hid hIDB
        have HB8 : Hid (IntsR w8 (.slice ba bn bc) IDB) := by
          rw [hIDB]
          exact Rws.own (OB7.out.up u8.out)
        have HM8 : Hid (MetsR w8 (.slice na nn nc) (atM ts (fx + 1))) := Rws.own ON.out
        have HNN := hid (rows_mlen ON.out)
        have HLEN : Hid ((atM ts (fx + 1)).length ≤ 256) := (cnt_at HC0.out (fx + 1)).1
        have HFIL : Hid ((atM ts (fx + 1)).filter (fun m => decide (m.id ∈ IDB)) = p.below) := by
          unfold Hid
          rw [hIDB, HPP.out.2.2.2.2.1]
          exact at_filter_touch (chk_all HC0.out) (fx + 1) p.low p.high
        have HBN := hid (ints_len HB8.out)
        have HIL : Hid (IDB.length ≤ 256) := by rw [hIDB, List.length_map]; exact HLB.out
        obtain ⟨nx, hnx⟩ : ∃ nx, nx = atM ts (fx + 1) := ⟨_, rfl⟩
        rw [← hnx] at HM8 HNN HLEN HFIL
        obtain rfl : nn = nx.length := HNN.out
        obtain rfl : bn = IDB.length := HBN.out
        have hnl := HLEN.out
        have hil := HIL.out
        clear hIDB hnx ON u8 HCA y0 y1 y2 q0 C7 OB7 UW7 a7 HNN HBN
        clear w7
        have HF1 : Hid (∀ k x, nx[k]? = some x → lowM p.low ((nx.take (k + 1)).filter (fun m => decide (m.id ∈ IDB))) = lowS (decide (x.id ∈ IDB)) (lowM p.low ((nx.take k).filter (fun m => decide (m.id ∈ IDB)))) x.low) := fun k x h => lowM_filter h _ _
        have HF2 : Hid (∀ k x, nx[k]? = some x → highM p.high ((nx.take (k + 1)).filter (fun m => decide (m.id ∈ IDB))) = highS (decide (x.id ∈ IDB)) (highM p.high ((nx.take k).filter (fun m => decide (m.id ∈ IDB)))) x.high) := fun k x h => highM_filter h _ _
        obtain ⟨LF, hLF⟩ : ∃ LF : Nat → ByteArray, LF = fun k => lowM p.low ((nx.take k).filter (fun m => decide (m.id ∈ IDB))) := ⟨_, rfl⟩
        obtain ⟨HF, hHF⟩ : ∃ HF : Nat → ByteArray, HF = fun k => highM p.high ((nx.take k).filter (fun m => decide (m.id ∈ IDB))) := ⟨_, rfl⟩
        have HG1 : Hid (∀ k x, nx[k]? = some x → LF (k + 1) = lowS (decide (x.id ∈ IDB)) (LF k) x.low) := by rw [hLF]; exact HF1.out
        have HG2 : Hid (∀ k x, nx[k]? = some x → HF (k + 1) = highS (decide (x.id ∈ IDB)) (HF k) x.high) := by rw [hHF]; exact HF2.out
        have HL0 : Hid (p.low = LF 0 ∧ p.high = HF 0) := by rw [hLF, hHF]; exact ⟨rfl, rfl⟩
        have HLE : Hid (LF nx.length = lowM p.low p.below ∧ HF nx.length = highM p.high p.below) := by
          rw [hLF, hHF]
          simp only [List.take_length]
          rw [HFIL.out]
          exact ⟨rfl, rfl⟩
        clear hLF hHF HF1 HF2 HFIL
        rw [HL0.out.1, HL0.out.2]
        go_wp2_with fail
        go_loopw [9, 10, 15] (fun o q i wr => ∃ (k : Nat), k ≤ nx.length ∧ i = .int .i64 k ∧ o = .string (LF k) ∧ q = .string (HF k) ∧ Hid (Below w8.heap.size w8 wr)) (fun _ _ i _ => nx.length - (intOf i).toNat)
        case atStart => exact ⟨0, Nat.zero_le _, rfl, rfl, rfl, Below.refl _ _⟩
        case round =>
          obtain ⟨k, hk, rfl, rfl, rfl, HB⟩ := hrel
          by_cases hlt : k < nx.length
          · have hlt' : (k : Int) < (nx.length : Int) := by omega
            obtain ⟨b', off', cap', y, e, hy, _, _, _, _, _⟩ := HM8.out.at k hlt
            simp only [Value.slice.injEq] at e
            obtain ⟨rfl, _, rfl⟩ := e
            have HY := hid hy
            have S1 := hid (HG1.out k y hy)
            have S2 := hid (HG2.out k y hy)
            clear hy
            generalize LF k = LL at *
            generalize HF k = HH at *
            go_wp2_with fail
            go_loopw [9, 10, 16] (fun o q j wr => ∃ (jj : Nat), jj ≤ IDB.length ∧ j = .int .i64 jj ∧ o = .string (lowS (decide (y.id ∈ IDB.take jj)) LL y.low) ∧ q = .string (highS (decide (y.id ∈ IDB.take jj)) HH y.high) ∧ Hid (Below w8.heap.size w8 wr)) (fun _ _ j _ => IDB.length - (intOf j).toNat)
            case atStart => exact ⟨0, Nat.zero_le _, rfl, by simp [lowS], by simp [highS], HB⟩
            case round =>
              clear HB
              obtain ⟨jj, hjj, rfl, rfl, rfl, HB⟩ := hrel
              by_cases hlj : jj < IDB.length
              · have hlj' : (jj : Int) < (IDB.length : Int) := by omega
                obtain ⟨ib, ioff, icap, z, e, hz, z0⟩ := (HB8.out.up HB.out).at jj hlj
                simp only [Value.slice.injEq] at e
                obtain ⟨rfl, _, rfl⟩ := e
                have HMr := hid (HM8.out.up HB.out)
                obtain ⟨b2, off2, cap2, y2, e, hy2, m0, m1, m2, m3, m4⟩ := HMr.out.at k hlt
                simp only [Value.slice.injEq, Option.some.injEq, Addr.mk.injEq] at e
                obtain ⟨⟨rfl, rfl, _⟩, _, rfl⟩ := e
                obtain rfl : y = y2 := by have h := HY.out; rw [hy2] at h; exact (Option.some.inj h).symm
                clear hy2
                by_cases hq : y.id = z
                · have hq' : (y.id == z) = true := by simp [hq]
                  have HT : Hid (decide (y.id ∈ IDB.take (jj + 1)) = true) := by
                    unfold Hid
                    rw [decide_eq_true_eq, List.take_add_one, hz, hq]
                    simp
                  clear hz hq
                  have M1 := fun (w : World) ts t => run_minK (P := Try.prog) w ts t (lowS (decide (y.id ∈ IDB.take jj)) LL y.low) y.low
                  have M2 := fun (w : World) ts t => run_maxK (P := Try.prog) w ts t (highS (decide (y.id ∈ IDB.take jj)) HH y.high) y.high
                  simp only [lowS_min, highS_max] at M1 M2
                  generalize lowS (decide (y.id ∈ IDB.take jj)) LL y.low = L1 at *
                  generalize highS (decide (y.id ∈ IDB.take jj)) HH y.high = H1 at *
                  obtain ⟨L2, hL2⟩ : ∃ L2, lowS true LL y.low = L2 := ⟨_, rfl⟩
                  obtain ⟨H2, hH2⟩ : ∃ H2, highS true HH y.high = H2 := ⟨_, rfl⟩
                  rw [hL2] at M1
                  rw [hH2] at M2
                  have E1 := hid hL2
                  have E2 := hid hH2
                  clear hL2 hH2
                  go_wp2_with fail
                  go_quiet (fail)
                  have HBq := hid (up_trans HB.out (up_drewN wr nq))
                  have HMq := hid (HMr.out.up (up_drewN wr nq))
                  clear m0 m1 m2 m3 m4 z0 HMr HB
                  generalize wr.drewN nq = wq at *
                  go_wp2_with fail
                  obtain ⟨b3, off3, cap3, y3, e, hy3, m0, m1, m2, m3, m4⟩ := HMq.out.at k hlt
                  simp only [Value.slice.injEq, Option.some.injEq, Addr.mk.injEq] at e
                  obtain ⟨⟨rfl, rfl, _⟩, _, rfl⟩ := e
                  obtain rfl : y = y3 := by have h := HY.out; rw [hy3] at h; exact (Option.some.inj h).symm
                  clear hy3
                  go_quiet (fail)
                  go_wp2_with fail
                  exact ⟨⟨jj + 1, by omega, by go_num, by rw [HT.out, E1.out], by rw [HT.out, E2.out], up_trans HBq.out (up_drewN _ _)⟩, by simp [intOf]; omega⟩
                · have hq' : (y.id == z) = false := by simp [hq]
                  have HT : Hid (decide (y.id ∈ IDB.take (jj + 1)) = decide (y.id ∈ IDB.take jj)) := by
                    unfold Hid
                    rw [decide_eq_decide, List.take_add_one, hz]
                    simp [hq]
                  clear hz hq
                  go_wp2_with fail
                  go_quiet (fail)
                  go_wp2_with fail
                  exact ⟨⟨jj + 1, by omega, by go_num, by rw [HT.out], by rw [HT.out], up_trans HB.out (up_drewN _ _)⟩, by simp [intOf]; omega⟩
              · have hlj' : ¬ (jj : Int) < (IDB.length : Int) := by omega
                obtain rfl : jj = IDB.length := by omega
                rw [List.take_length, ← S1.out, ← S2.out]
                go_wp2_with fail
                exact ⟨⟨k + 1, by omega, by go_num, rfl, rfl, HB⟩, by simp [intOf]; omega⟩
          · have hlt' : ¬ (k : Int) < (nx.length : Int) := by omega
            obtain rfl : k = nx.length := by omega
            rw [HLE.out.1, HLE.out.2]
            have C9 := hid (C8.out.up HB.out)
            have HBP : Hid (∀ j : Nat, fx + 2 + (j : Int) = 4 → botR ts fx (lowM p.low p.below) (highM p.high p.below) j = p.bot) := fun j hj => (botR_plan HC0.out fx HLV.out _ _ j hj).trans HPP.out.2.2.2.2.2.symm
            have HI7 : Hid (idR l ++ idR p.below = ((p.top ++ p.below).map (·.id)).map irow) := by
              unfold Hid idR
              rw [HPP.out.2.1, ← HL.out, List.map_append, List.map_append]
            generalize lowM p.low p.below = LO at *
            generalize highM p.high p.below = HI at *
            have q0 := blk_cell C9.out.bp 0 _ rfl
            clear HG1 HG2 HLE HL0 HM8 HB8
            go_wp2_with fail
            clear q0
            go_loopw [17] (fun i wr => ∃ (j : Nat) (LV : Int), i = .int .i64 LV ∧ 0 ≤ LV ∧ LV ≤ 4 ∧ Hid (fx + 2 + (j : Int) = LV) ∧ Hid (ChI w2 wr NP fx a6 n6 c6 (idR l ++ idR p.below) (botR ts fx LO HI j))) (fun i _ => (4 - intOf i).toNat)
            case atStart => exact ⟨0, fx + 2, rfl, by omega, by omega, by simp [Hid], C9⟩
            case round =>
              clear C9 C8 HB
              obtain ⟨j, LV, rfl, hLV0, hLV4, HLJ, HCI⟩ := hrel
              have UWr := hid (U2.out.grown HCI.out.gr U2.out.size (fun k hk => by injection hk with hk; have := NP1.out.2.2; omega))
              have aR := hid (HCI.out.blk a2.out NP1.out.1)
              have bR := hid (HCI.out.blk b2.out NP1.out.2.1)
              by_cases hlt : LV ≤ 3
              · have HTC : Hid (Calls Try.prog 14 #[.agg #[.slice va vn vc, .int .i64 seq, .int .i64 next], .int .i64 LV, .string LO, .string HI] wr fun e w' => ∃ a n c, e = .returned (.tuple #[.slice a n c, .int .i64 0]) ∧ Hid (n = (touchM ts LV LO HI).length) ∧ Hid (Below wr.heap.size wr w')) := by
                  refine (refTouch_any ts seq next LV LO HI va vn vc wr (HV.out.up UWr.out)).mono ?_
                  rintro e w' ⟨a, n, c, rfl, O, u⟩
                  have q : tchM ts seq next LV LO HI = (touchM ts LV LO HI).map (·.id) := by unfold tchM; rw [if_pos HC0.out]
                  rw [q] at O
                  have h := ints_len (show IntsR w' (.slice a n c) _ from Rws.own O.out)
                  rw [List.length_map] at h
                  rw [HC0.out]
                  exact ⟨a, n, c, rfl, h, u⟩
                have HST := hid (botR_step ts fx LO HI j)
                rw [HLJ.out] at HST
                have HLJ2 : Hid (fx + 2 + ((j + 1 : Nat) : Int) = LV + 1) := by have := HLJ.out; unfold Hid; omega
                have y0 := blk_cell aR.out 0 _ rfl
                have y1 := blk_cell aR.out 1 _ rfl
                have y2 := blk_cell aR.out 2 _ rfl
                go_wp2_with fail
                refine HTC.out.mono ?_
                rintro e w5 ⟨da, dn, dc, rfl, HDN, u5⟩
                have HEM : Hid ((touchM ts LV LO HI).isEmpty = decide (dn = 0)) := by
                  unfold Hid
                  rw [HDN.out]
                  cases touchM ts LV LO HI <;> simp
                rw [HEM.out] at HST
                have C5 := hid (HCI.out.up u5.out)
                clear HTC HDN HEM u5 y0 y1 y2 aR bR UWr HCI HLJ
                generalize hbb : botR ts fx LO HI j = bb at *
                clear hbb
                have q2 := blk_cell C5.out.bp 2 _ rfl
                have f2 := blk_frozen C5.out.bp 2
                cases bb with
                | false =>
                  have C6 := hid (C5.out.bot false)
                  have HS2 : Hid (botR ts fx LO HI (j + 1) = false) := by unfold Hid; rw [HST.out]; rfl
                  clear HST
                  go_wp2_with fail
                  exact ⟨⟨j + 1, LV + 1, rfl, by omega, by omega, HLJ2, by rw [HS2.out]; exact C6⟩, by simp [intOf]; omega⟩
                | true =>
                  by_cases hdn : dn = 0
                  · subst hdn
                    have C6 := hid (C5.out.bot true)
                    have HS2 : Hid (botR ts fx LO HI (j + 1) = true) := by unfold Hid; rw [HST.out]; rfl
                    clear HST
                    go_wp2_with fail
                    exact ⟨⟨j + 1, LV + 1, rfl, by omega, by omega, HLJ2, by rw [HS2.out]; exact C6⟩, by simp [intOf]; omega⟩
                  · have C6 := hid (C5.out.bot false)
                    have HS2 : Hid (botR ts fx LO HI (j + 1) = false) := by unfold Hid; rw [HST.out, decide_eq_false hdn]; rfl
                    have hdn' : ((dn : Int) == 0) = false := by rw [beq_eq_false_iff_ne]; omega
                    clear HST
                    go_wp2_with fail
                    exact ⟨⟨j + 1, LV + 1, rfl, by omega, by omega, HLJ2, by rw [HS2.out]; exact C6⟩, by simp [intOf]; omega⟩
              · obtain rfl : LV = 4 := by omega
                rw [HBP.out j HLJ.out, HI7.out] at HCI
                have r0 := blk_cell bR.out 0 _ rfl
                have r1 := blk_cell bR.out 1 _ rfl
                have r2 := blk_cell bR.out 2 _ rfl
                have f0 := blk_frozen bR.out 0
                have f1 := blk_frozen bR.out 1
                have f2 := blk_frozen bR.out 2
                have q0 := blk_cell HCI.out.bp 0 _ rfl
                have q1 := blk_cell HCI.out.bp 1 _ rfl
                have q2 := blk_cell HCI.out.bp 2 _ rfl
                have O2 := OwnR.far HCI.out.ow (set3_grown wr N1 (.int .i64 fx) (.slice a6 n6 c6) (.bool p.bot)) (own_blk_ne HCI.out.ow.2 bR.out (by decide))
                have IT : Hid (IntsR _ (.slice a6 n6 c6) ((p.top ++ p.below).map (·.id))) := Rws.own O2
                clear O2
                go_wp2_with fail
                refine bodyPost_ret (results_plan rfl (.inr rfl) _ _ rfl (set3_blk bR.out _ _ _)) rfl (HP.out _ _ ?_)
                rw [HR.out]
                exact ⟨a6, n6, c6, rfl, ints_len IT.out, IT.out, UWr.out.trans (below_grown (set3_grown wr N1 _ _ _) UWr.out.size (fun k hk => by injection hk with hk; have := HN1.out; omega))⟩
end Go.Proofs.Ytjdibpmckeifhaa
