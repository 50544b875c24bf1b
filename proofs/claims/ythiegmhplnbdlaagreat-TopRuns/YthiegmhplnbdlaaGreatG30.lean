/- Texts of layers 1 to 13, in this order. -/
import Derived.Test.YthiegmhplnbdlaaGreatG28
import Derived.Maps.OwnIn
import Derived.OrdersIn
import Derived.Test.YthiegmhplnbdlaaGreatG29

namespace Go.Proofs.YthiegmhplnbdlaaGreat
open Go.RowKit Go.Shelf SumPlain
set_option linter.unusedVariables false
theorem wpOpIn_mono2 {F : Fence} {n : Nat} {P : Program} {ops : Array Oper} {Q : Exit → Act → World → Prop} {i : Nat} {K K' : Act → World → Prop} {a : Act} {w : World} (l : Nat) (hd : ∀ o c, ops[i]? = some o → o.op ≠ .defer c) (hF : F.round = none) (hK : ∀ a w, K a w → K' a w)
    (h : wpOpIn F n P ops Q i K a w) : wpOpIn (F.inRound l) n P ops Q i K' a w := by
  have h := wpOpIn_mono hK h
  unfold wpOpIn at *
  cases ho : ops[i]? with
  | none => rw [ho] at h; exact h
  | some o =>
    rw [ho] at h
    have hdo : ∀ c, o.op ≠ .defer c := fun c => hd o c ho
    simp only at h ⊢
    by_cases hw : Region.wanted o (yielded ops a.tmps) = true
    · rw [if_pos hw] at h ⊢
      unfold Oper.wpIn at *
      refine ⟨h.1, ?_⟩
      have h := h.2
      rw [Oper.semAt_eq _ _ _ hdo] at h ⊢
      generalize (execOp a.eval o).run P w = r at *
      cases r with
      | ok x w' => cases x <;> exact h
      | halt x w' => cases x <;> exact h
    · rw [if_neg hw] at h ⊢
      exact h
theorem wpAnyIn_round {F : Fence} {n : Nat} {P : Program} {md : Region.Mode} {ops : Array Oper} {Q : Exit → Act → World → Prop} (l : Nat) (hd : ∀ (i : Nat) o c, ops[i]? = some o → o.op ≠ .defer c) (hF : F.round = none) : ∀ (fuel : Nat) (listed : Array Bool) (a : Act) (w : World),
    wpAnyIn F n P md ops Q fuel listed a w → wpAnyIn (F.inRound l) n P md ops Q fuel listed a w
  | 0, listed, a, w, h => h
  | fuel + 1, listed, a, w, h => ⟨h.1, fun i hi => wpOpIn_mono2 l (hd i) hF (fun a w => wpAnyIn_round l hd hF fuel _ a w) (h.2 i hi)⟩
theorem wpIn_then {F : Fence} {n : Nat} {P : Program} {c : Code} {K : Act → World → Prop} {Q : Exit → Act → World → Prop} {a : Act} {w : World} (h : c.wpIn F n P (Exit.then K (fun _ _ _ => False)) a w) : c.wpIn F n P (Exit.then K Q) a w :=
  wpIn_mono h (fun e a w hq => by
    cases e with
    | normal => exact hq
    | _ => exact hq.elim)
def noDefer (ops : Array Oper) : Bool := ops.toList.all fun o => match o.op with | .defer _ => false | _ => true
theorem noDefer_spec {ops : Array Oper} (h : noDefer ops = true) (i : Nat) (o : Oper) (c : _) (ho : ops[i]? = some o) : o.op ≠ .defer c := by
  intro e
  have hm : o ∈ ops.toList := by
    rw [← Array.getElem?_toList] at ho
    exact List.mem_of_getElem? ho
  have := List.all_eq_true.1 h o hm
  rw [e] at this
  cases this
end Go.Proofs.YthiegmhplnbdlaaGreat

namespace Go.Proofs.YthiegmhplnbdlaaGreat
open Go.RowKit Go.Shelf SumPlain
set_option linter.unusedVariables false
set_option linter.unusedSimpArgs false
set_option maxRecDepth 100000
theorem wide_fn (f : FuncId) : Fence.wide.fn f = True := rfl
attribute [local go_sem] Oper.semAt_some wide_fn
def BldE (l : List En) (w : World) (e : Ending) (w' : World) : Prop := ∃ a n c fa fn fc, e = .returned (.tuple #[.slice a n c, .agg #[.int .i64 (filT l).1, .slice fa fn fc]]) ∧ Hid (n = (tabO l).length ∧ OwnB w' w.heap.size (.slice a n c) (tabO l)) ∧ Hid (fn = (filT l).2.length ∧ OwnB w' w.heap.size (.slice fa fn fc) (filT l).2) ∧ Hid (Below w.heap.size w w')
theorem results_bld {fn : Func} (h : fn.results = #[.tmp 2, .cell 3 57]) (tmps : Array Value) (w : World) {N : Nat} {x y z : Value} (hx : tmps.getD 2 undef = x) (ht : tmps.getD 3 undef = .pointer (some ⟨N, 0, none⟩))
    (hc : w.heap[N]? = some (.cells #[y, z] 57)) : (results fn tmps).run Tryz.prog w = .ok (.tuple #[x, .agg #[y, z]]) w := by
  have c0 := blk_cell hc 0 y rfl
  have c1 := blk_cell hc 1 z rfl
  have ht' : tmps[3]?.getD undef = .pointer (some ⟨N, 0, none⟩) := by simpa using ht
  have hx' : tmps[2]?.getD undef = x := by simpa using hx
  simp only [results, h]
  simp [ht', hx', go_sem, c0, c1]
theorem chunk_part {l : List En} {b off n c i q r : Nat} (hL : l.length = n) (hnc : n ≤ c) (hq : q = 16 * i) (hlt : q < n) (hr : r = min (q + 16) n) {W : World} (h : EntsR W (.slice (some ⟨b, off, none⟩) n c) l) : EntsR W (.slice (some ⟨b, off + q * 4, none⟩) (r - q) (c - q)) (chunkT l i) := by
  rw [← hL] at h
  have := ents_mid h q r (by omega) (by omega) (by omega)
  rw [if_neg (by omega)] at this
  have e : chunkT l i = (l.drop q).take (r - q) := by
    unfold chunkT
    rw [← hq]
    by_cases hb : q + 16 ≤ n
    · rw [show r - q = 16 by omega]
    · rw [List.take_of_length_le (by simp; omega), List.take_of_length_le (by simp; omega)]
  rw [e]
  exact this
theorem chunk_first {l : List En} {i q : Nat} {x : En} (hq : q = 16 * i) (hx : l[q]? = some x) : firstT (chunkT l i) = nums x.key := by
  unfold chunkT
  rw [← hq, List.drop_eq_getElem_cons (List.getElem?_eq_some_iff.1 hx).1, (List.getElem?_eq_some_iff.1 hx).2]
  rfl
theorem own_n {w : World} {base : Nat} {a : Option Addr} {n c : Nat} {l : List Int} (h : OwnB w base (.slice a n c) l) : n = l.length := by
  obtain ⟨_, _, e, _⟩ := own_len h
  simp only [Value.slice.injEq] at e
  exact e.2.1
structure BxW (w : World) (v vb vi : Value) (B I : List Int) (r : Loop) (M : Nat) (k : Int) (vf : Value) (fb : List Int) (W : World) : Prop where
  bu : BuW w v vb vi B I r W
  fx : W.heap[M]? = some (.cells #[.int .i64 k, vf] 57)
  of : OwnB W (w.heap.size + 6) vf fb
  ap : ∀ g, vb.ownBlock = some g → vf.ownBlock ≠ some g
  hM : w.heap.size + 6 ≤ M
theorem BxW.up {w : World} {v vb vi : Value} {B I : List Int} {r : Loop} {M : Nat} {k : Int} {vf : Value} {fb : List Int} {W W' : World} (H : BxW w v vb vi B I r M k vf fb W) (h : Below W.heap.size W W') : BxW w v vb vi B I r M k vf fb W' :=
  ⟨H.bu.up h, blk_up H.fx h, own_up H.of h, H.ap, H.hM⟩
theorem BxW.keep {w : World} {v vb vi : Value} {B I : List Int} {r : Loop} {M : Nat} {k : Int} {vf : Value} {fb : List Int} {W W' : World} (H : BxW w v vb vi B I r M k vf fb W) (hg : W.grownBy W' vb.ownBlock) : W'.heap[M]? = some (.cells #[.int .i64 k, vf] 57) ∧ OwnB W' (w.heap.size + 6) vf fb := by
  refine ⟨blk_grown H.fx hg (fun e => ?_), H.of.kept hg ?_⟩
  · rcases own_blk_ne H.bu.ob H.fx (by decide) with q | q
    · rw [q] at e; cases e
    · exact q e.symm
  · cases e : vf.ownBlock with
    | none => exact .inl rfl
    | some g => exact .inr (fun e2 => H.ap g e2.symm e)
theorem BxW.setB {w : World} {v vb vi vb' : Value} {B I B' : List Int} {r : Loop} {M : Nat} {k : Int} {vf : Value} {fb : List Int} {W W' : World} (H : BxW w v vb vi B I r M k vf fb W) (ho : OwnB W' (w.heap.size + 6) vb' B') (hg : W.grownBy W' vb.ownBlock) (ha : vb'.ownBlock = vb.ownBlock ∨ ∃ g, vb'.ownBlock = some g ∧ W.heap.size ≤ g) :
    BxW w v vb' vi B' I r M k vf fb (W'.setCell ⟨w.heap.size + 1, 0, none⟩ vb') := by
  obtain ⟨k1, k2⟩ := H.keep hg
  have g2 := grown_set W' ⟨w.heap.size + 1, 0, none⟩ vb'
  have hM := H.hM
  refine ⟨(H.bu.setB ho hg ha).2, blk_grown k1 g2 (by simp; omega), k2.apart g2 (fun j hj => by simp at hj; omega), ?_, hM⟩
  intro g hg1 hg2
  rcases ha with ha | ⟨g3, ha, h3⟩
  · rw [ha] at hg1; exact H.ap g hg1 hg2
  · rw [ha] at hg1
    injection hg1 with e
    have := (H.of.lt g hg2).2
    omega
set_option maxHeartbeats 4000000 in
theorem build_good (l : List En) (a : Option Addr) (c : Nat) (w : World) (hv : EntsR w (.slice a l.length c) l) (h0 : chkT l = 0) :
    Calls Tryz.prog 39 #[.slice a l.length c] w fun e w' => BldE l w e w' := by
  obtain ⟨l1, l2, hord⟩ := chkT_ok h0
  have HCH : Hid (chkT l = 0) := h0
  have HV : Hid (EntsR w (.slice a l.length c) l) := hv
  obtain ⟨a0, c0, e0, hc, hm⟩ := hv.len
  simp only [Value.slice.injEq] at e0
  obtain ⟨rfl, _, rfl⟩ := e0
  have HORD : Hid (ordE none l = 0) := hord
  obtain ⟨n, hn⟩ : ∃ n, n = l.length := ⟨_, rfl⟩
  have HL : Hid (l.length = n) := hn.symm
  rw [← hn] at HV l1 l2 hc ⊢
  obtain ⟨b, off, cap, x0, e, _⟩ := HV.out.at 0 (by omega)
  simp only [Value.slice.injEq] at e
  obtain ⟨rfl, enn, rfl⟩ := e
  clear hv hord hn h0 enn
  have HCU := hid (fun w => cut_any (some ⟨b, off, none⟩) n c w)
  refine (callsIn_wide (n := 9)).1 ?_
  refine callsIn_of_wp_marks Tryz.func39 rfl trivial ?_ rfl
  simp only [Tryz.ntmps39, List.size_toArray, List.length_cons, List.length_nil, Nat.reduceAdd, Nat.reduceSub, Array.replicate_succ, Array.replicate_zero, List.push_toArray, List.append_toArray, List.nil_append, List.cons_append]
  gi_wp2_with fail
  refine (callsIn_wide.2 (HCU.out _)).mono ?_
  rintro e w1 ⟨rfl, rfl⟩
  gi_wp2_with fail
  obtain ⟨w3, hw3⟩ : ∃ w3 : World, w3 = (((w.alloc (.cells #[.int .i64 0, .slice none 0 0] 57)).alloc (.cells #[.slice none 0 0] 25)).alloc (.cells #[.slice none 0 0] 25)).alloc (.cells #[.slice (some ⟨b, off, none⟩) n c] 42) := ⟨_, rfl⟩
  have d3 : w3.heap.size = w.heap.size + 4 := by rw [hw3]; simp
  have c0 : w3.heap[w.heap.size]? = some (.cells #[.int .i64 0, .slice none 0 0] 57) := by rw [hw3]; exact blk_al (blk_al (blk_al (blk_nw _ _ (by simp)) _) _) _
  have c1 : w3.heap[w.heap.size + 1]? = some (.cells #[.slice none 0 0] 25) := by rw [hw3]; exact blk_al (blk_al (blk_nw _ _ (by simp)) _) _
  have c2 : w3.heap[w.heap.size + 2]? = some (.cells #[.slice none 0 0] 25) := by rw [hw3]; exact blk_al (blk_nw _ _ (by simp)) _
  have c3 : w3.heap[w.heap.size + 3]? = some (.cells #[.slice (some ⟨b, off, none⟩) n c] 42) := by rw [hw3]; exact blk_nw _ _ (by simp)
  have u3 : Below w.heap.size w w3 := by rw [hw3]; exact up_al (up_al (up_al (up_alloc _ _) _) _) _
  rw [← hw3]
  clear hw3
  refine range_law rfl (enters_of Tryz.func89 (by kernel_rfl) rfl) ?_
  intro r r1 r2 r3 r4 r5 r6
  rw [d3]
  have J0 : BuW w (.slice (some ⟨b, off, none⟩) n c) (.slice none 0 0) (.slice none 0 0) [] [] r ((w3.alloc (.deferred (some []))).alloc (.loop r)) := by
    refine ⟨blk_al (blk_al c0 _) _, blk_al (blk_al c1 _) _, blk_al (blk_al c2 _) _, blk_al (blk_al c3 _) _, blk_al (blk_nw _ _ (by omega)) _, blk_nw _ _ (by simp; omega), OwnB.nil _ _, OwnB.nil _ _, (fun g h => by simp [Value.ownBlock] at h), up_al (up_al u3 _) _⟩
  generalize (w3.alloc (.deferred (some []))).alloc (.loop r) = W1 at *
  refine (cut_in 8 (w.heap.size + 5) (w.heap.size + 3) b off n c hc (by omega)
    (fun i W => ∃ ba bn bc ia im ic, BuW w (.slice (some ⟨b, off, none⟩) n c) (.slice ba bn bc) (.slice ia im ic) (blkT l i) (idxT l i) r W)
    (fun W => False) W1 ?hY ?hK ⟨none, 0, 0, none, 0, 0, J0⟩).mono ?post
  case hK =>
    rintro i W' ⟨_, _, _, _, _, _, H⟩
    exact blk_cell H.cb 0 _ rfl
  case post =>
    rintro e W' ⟨hv, hor⟩
    refine ⟨hv, ?_⟩
    rcases hor with ⟨ba, bn, bc, ia, im, ic, H⟩ | hF
    · refine ⟨r, H.loop, (by rw [r1]; simp), .inl ⟨r2, ?_⟩⟩
      have H2 := H.put { r with state := .exhausted }
      rw [show (n + 15) / 16 = manyT l by unfold manyT; rw [HL.out]] at H2
      have HH := hid H2
      generalize W'.putObj (w.heap.size + 5) (.loop { r with state := .exhausted }) = W2 at *
      clear H H2 J0 c0 c1 c2 c3 u3 r1 r2 r3 r4 r5 r6
      have q1 := blk_cell HH.out.bb 0 _ rfl
      obtain ⟨wf1, wf2, wf3, wf4, wf5, wf6⟩ := fil_may HCH.out
      have hfo : ∀ y ∈ (filT l).2, 0 ≤ y ∧ y ≤ 255 := wf3
      have heo : ∀ y ∈ encL (filT l).1 (filT l).2, 0 ≤ y ∧ y ≤ 255 := by
        rw [wf2]
        intro y hy
        rcases List.mem_cons.1 hy with rfl | q
        · omega
        · exact hfo y q
      have HEL : Hid ((encL (filT l).1 (filT l).2).length ≤ 8193) := (fr3_oct HCH.out).2
      have HKS : Hid (∀ W : World, EntsR W (.slice (some ⟨b, off, none⟩) n c) l → Calls Tryz.prog 68 #[.slice (some ⟨b, off, none⟩) n c] W fun e w' => ∃ a n c, e = .returned (.slice a n c) ∧ Hid (TextsW w' (.slice a n c) (keysT none l)) ∧ Hid (Below W.heap.size W w')) := fun W h => by
        refine (keysOf_any l _ W h (by rw [HL.out]; omega)).mono ?_
        rintro e w' ⟨a, n, c, rfl, _, h1, h2⟩
        exact ⟨a, n, c, rfl, Rws.own h1.out, h2⟩
      have HKL : Hid (KeyL (keysT none l)) := fun s hs => by
        obtain ⟨x, hx, rfl⟩ := keysT_oct l none s hs
        have hm := ordE_may l none HORD.out x hx
        have := (mayE_le hm).2.1
        exact ⟨nums_octet x.key, by omega⟩
      have HMK : Hid (∀ (v : Value) (W : World), TextsW W v (keysT none l) → Calls Tryz.prog 67 #[v, .int .i64 10] W fun e w' => ∃ a n c x, e = .returned (.tuple #[.agg #[.int .i64 (filT l).1, .slice a n c], .int .i64 x]) ∧ Hid (n = (filT l).2.length) ∧ Hid (OwnB w' W.heap.size (.slice a n c) (filT l).2) ∧ Hid (Below W.heap.size W w')) := fun v W h => by
        refine (make_any _ HKL.out 10 v W h).mono ?_
        rintro e w' ⟨a, n, c, rfl, h1, h2, h3⟩
        exact ⟨a, n, c, _, rfl, h1, h2, h3⟩
      have HEC : Hid (∀ (a : Option Addr) (n c : Nat) (W : World), n = (filT l).2.length → OwnB W (w.heap.size + 6) (.slice a n c) (filT l).2 → Calls Tryz.prog 69 #[.agg #[.int .i64 (filT l).1, .slice a n c]] W fun e w' => ∃ a n c x, e = .returned (.tuple #[.slice a n c, .int .i64 x]) ∧ Hid (n = (encL (filT l).1 (filT l).2).length) ∧ Hid (Octs w' (.slice a n c) (encL (filT l).1 (filT l).2)) ∧ Hid (Below W.heap.size W w')) := fun a n c W hn h => by
        subst hn
        refine (encode_any _ _ a c W (Octs.own h hfo)).mono ?_
        rintro e w' ⟨a', n', c', rfl, h1, h2, h3⟩
        exact ⟨a', n', c', _, rfl, h1, Octs.own h2 heo, h3⟩
      have HIO := hid (idxT_oct HCH.out)
      have HIL : Hid ((idxT l (manyT l)).length ≤ 65536) := by have := (fr2_len HCH.out).2; unfold Hid; omega
      have HAT := hid (at_len HCH.out)
      have HF2 : Hid ((fr2 l).length ≤ 29198) := (fr2_len HCH.out).1
      have HF3 : Hid ((fr3 l).length ≤ 8300) := by
        unfold Hid fr3
        rw [frame_len]
        have := octets_len (((encL (filT l).1 (filT l).2).length : Nat) : Int) (by omega) (by have := HEL.out; omega)
        have := HEL.out
        omega
      have HE2 : Hid (fr2 l = frameOf 2 (idxT l (manyT l))) := rfl
      have HE3 : Hid (fr3 l = frameOf 3 (encL (filT l).1 (filT l).2)) := rfl
      have HEA : Hid (atT l = (blkT l (manyT l)).length) := rfl
      have HET : Hid (toT l = atT l + (fr2 l).length) := rfl
      have HTAB : Hid (tabO l = blkT l (manyT l) ++ (fr2 l ++ (fr3 l ++ footO (atT l) (toT l) n))) := by unfold Hid tabO; rw [HL.out]
      clear wf1 wf2 wf3 wf4 wf5 wf6 hfo heo HKL
      obtain ⟨TB, hTB⟩ : ∃ TB, TB = tabO l := ⟨_, rfl⟩
      have HTB : Hid (tabO l = TB) := hTB.symm
      rw [← hTB] at HTAB
      obtain ⟨FL, hFL⟩ : ∃ FL, FL = filT l := ⟨_, rfl⟩
      have HFL : Hid (filT l = FL) := hFL.symm
      rw [← hFL] at HMK HEC HEL HE3
      clear hTB hFL
      generalize blkT l (manyT l) = BK at *
      generalize idxT l (manyT l) = IK at *
      generalize encL FL.1 FL.2 = EL at *
      generalize fr2 l = F2 at *
      generalize fr3 l = F3 at *
      generalize atT l = AT at *
      generalize toT l = TO at *
      generalize keysT none l = KT at *
      generalize ({ r with state := .exhausted } : Loop) = rx at *
      have HBN : Hid (bn = BK.length) := own_n HH.out.ob
      have HIN : Hid (im = IK.length) := own_n HH.out.oi
      have q2 : W2.cell? ⟨w.heap.size + 1 + 1, 0, none⟩ = some (.slice ia im ic) := blk_cell HH.out.ib 0 _ rfl
      have HR2 : Hid (Calls Tryz.prog 66 #[.slice ba bn bc, .int .i64 2, .slice ia im ic] W2 fun e w' => ∃ a' n' c', e = .returned (.slice a' n' c') ∧ Hid (AppE W2 (w.heap.size + 6) (.slice ba bn bc) (.slice a' n' c') (BK ++ F2) w') ∧ w'.cell? ⟨w.heap.size + 1, 0, none⟩ = some (.slice ba bn bc) ∧ w'.frozen? ⟨w.heap.size + 1, 0, none⟩ = false) := by
        have := HAT.out.1
        have := HEA.out
        refine (rec_any 2 IK ia im ic (w.heap.size + 6) ba bn bc BK W2 HH.out.ob HH.out.hb (by omega) (by omega) HIN.out (Octs.own HH.out.oi HIO.out) HIL.out (by omega)).mono ?_
        rintro e w' ⟨a', n', c', rfl, h1⟩
        have k1 := (HH.out.setB h1.out.ob h1.out.gr h1.out.pl).1 1 (by omega) _ HH.out.bb
        refine ⟨a', n', c', rfl, ?_, blk_cell k1 0 _ rfl, blk_frozen k1 0⟩
        rw [HE2.out]
        exact h1
      gi_wp2_with fail
      refine (callsIn_wide.2 HR2.out).mono ?_
      rintro e w8 ⟨b8a, b8n, b8c, rfl, AE8, t1, t2⟩
      have H9 := (HH.out.setB AE8.out.ob AE8.out.gr AE8.out.pl).2
      have HB9 := hid H9
      have HN9 : Hid (b8n = (BK ++ F2).length) := own_n AE8.out.ob
      clear H9 AE8 q1 q2 HR2 HH
      gi_wp2_with fail
      generalize w8.setCell ⟨w.heap.size + 1, 0, none⟩ (.slice b8a b8n b8c) = W9 at *
      clear t1 t2
      have q1 := blk_cell HB9.out.bb 0 _ rfl
      gi_wp2_with fail
      refine (callsIn_wide.2 (HKS.out _ (HV.out.up HB9.out.below))).mono ?_
      rintro e wk ⟨ka, kn, kc, rfl, KW, uk⟩
      gi_wp2_with fail
      refine (callsIn_wide.2 (HMK.out _ _ KW.out)).mono ?_
      rintro e wm ⟨ma, mn, mc, mx, rfl, hmn, MO, um⟩
      have HBm := hid ((HB9.out.up uk.out).up um.out)
      obtain ⟨wx, hwx⟩ : ∃ wx, wx = wm.alloc (.cells #[.int .i64 FL.1, .slice ma mn mc] 57) := ⟨_, rfl⟩
      have HWX : Hid (wm.alloc (.cells #[.int .i64 FL.1, .slice ma mn mc] 57) = wx) := hwx.symm
      have HBX : Hid (BxW w (.slice (some ⟨b, off, none⟩) n c) (.slice b8a b8n b8c) (.slice ia im ic) (BK ++ F2) IK rx wm.heap.size FL.1 (.slice ma mn mc) FL.2 wx) := by
        unfold Hid
        rw [hwx]
        refine ⟨HBm.out.up (up_alloc _ _), blk_new _ _, ?_, ?_, HBm.out.hb⟩
        · exact own_up (OwnB.mono MO.out (Nat.le_trans HB9.out.hb uk.out.size)) (up_alloc _ _)
        · intro g g1 g2
          have h1 := (HB9.out.ob.lt g g1).2
          have h2 := (MO.out.lt g g2).1
          have := uk.out.size
          omega
      clear hwx MO um uk HBm HB9 q1 HKS HMK KW
      gi_wp2_with fail
      rw [HWX.out]
      have x0 := blk_cell HBX.out.fx 0 _ rfl
      have x1 := blk_cell HBX.out.fx 1 _ rfl
      generalize wm.heap.size = M at *
      clear HWX
      gi_wp2_with fail
      refine (callsIn_wide.2 (HEC.out _ _ _ _ hmn.out HBX.out.of)).mono ?_
      rintro e we ⟨za, zn, zc, zx, rfl, hzn, ZO, ue⟩
      have HBE := hid (HBX.out.up ue.out)
      clear HBX ue HEC x0 x1
      have q1 := blk_cell HBE.out.bu.bb 0 _ rfl
      have HR3 : Hid (Calls Tryz.prog 66 #[.slice b8a b8n b8c, .int .i64 3, .slice za zn zc] we fun e w' => ∃ a' n' c', e = .returned (.slice a' n' c') ∧ Hid (AppE we (w.heap.size + 6) (.slice b8a b8n b8c) (.slice a' n' c') ((BK ++ F2) ++ F3) w') ∧ w'.cell? ⟨w.heap.size + 1, 0, none⟩ = some (.slice b8a b8n b8c) ∧ w'.frozen? ⟨w.heap.size + 1, 0, none⟩ = false) := by
        have := HAT.out.1
        have := HEA.out
        have := HF2.out
        have := HEL.out
        refine (rec_any 3 EL za zn zc (w.heap.size + 6) b8a b8n b8c (BK ++ F2) we HBE.out.bu.ob HBE.out.bu.hb (by omega) (by omega) hzn.out ZO.out (by omega) (by rw [List.length_append]; omega)).mono ?_
        rintro e w' ⟨a', n', c', rfl, h1⟩
        have k1 := (HBE.out.bu.setB h1.out.ob h1.out.gr h1.out.pl).1 1 (by omega) _ HBE.out.bu.bb
        refine ⟨a', n', c', rfl, ?_, blk_cell k1 0 _ rfl, blk_frozen k1 0⟩
        rw [HE3.out]
        exact h1
      gi_wp2_with fail
      refine (callsIn_wide.2 HR3.out).mono ?_
      rintro e wr ⟨b9a, b9n, b9c, rfl, AE9, t1, t2⟩
      have H10 := HBE.out.setB AE9.out.ob AE9.out.gr AE9.out.pl
      have HB10 := hid H10
      clear H10 AE9 q1 HR3 HBE ZO
      gi_wp2_with fail
      generalize wr.setCell ⟨w.heap.size + 1, 0, none⟩ (.slice b9a b9n b9c) = WA at *
      clear t1 t2
      have HBD := hid (HB10.out.up (show Below WA.heap.size WA WA.drew from ⟨rfl, rfl, rfl, Nat.le_refl _, fun _ _ => rfl⟩))
      have hbn4 : bn < 4294967296 := by have := HBN.out; have := HEA.out; have := HAT.out.1; omega
      have hb84 : b8n < 4294967296 := by have := HN9.out; rw [List.length_append] at this; have := HEA.out; have := HAT.out.1; have := HF2.out; omega
      have HTE : Hid (TB = ((BK ++ F2) ++ F3) ++ footO bn b8n n) := by
        unfold Hid
        have h8 := HN9.out
        rw [List.length_append] at h8
        rw [HTAB.out, HBN.out, h8, ← HEA.out, ← HET.out]
        simp only [List.append_assoc]
      have HLT : Hid (((BK ++ F2) ++ F3).length ≤ 1000000000) := by have := HEA.out; have := HAT.out.1; have := HF2.out; have := HF3.out; unfold Hid; simp only [List.length_append]; omega
      generalize (BK ++ F2) ++ F3 = B3 at *
      have HFT : Hid (Calls Tryz.prog 70 #[.slice b9a b9n b9c, .int .i64 bn, .int .i64 b8n, .int .i64 n] WA.drew fun e w' => ∃ a' n' c', e = .returned (.slice a' n' c') ∧ Hid (AppE WA.drew (w.heap.size + 6) (.slice b9a b9n b9c) (.slice a' n' c') TB w') ∧ w'.cell? ⟨M, 0, none⟩ = some (.int .i64 FL.1) ∧ w'.cell? ⟨M, 1, none⟩ = some (.slice ma mn mc) ∧ w'.cell? ⟨w.heap.size, 0, none⟩ = some (.int .i64 0) ∧ w'.cell? ⟨w.heap.size, 1, none⟩ = some (.slice none 0 0) ∧ w'.frozen? ⟨w.heap.size, 0, none⟩ = false ∧ w'.frozen? ⟨w.heap.size, 1, none⟩ = false) := by
        refine (foot_any bn b8n n (w.heap.size + 6) b9a b9n b9c B3 WA.drew HBD.out.bu.ob HBD.out.bu.hb hbn4 hb84 (by omega) HLT.out).mono ?_
        rintro e w' ⟨a', n', c', rfl, h1⟩
        have k1 := (HBD.out.bu.setB h1.out.ob h1.out.gr h1.out.pl).1 0 (by omega) _ HBD.out.bu.fil
        have k2 := (HBD.out.keep h1.out.gr).1
        refine ⟨a', n', c', rfl, ?_, blk_cell k2 0 _ rfl, blk_cell k2 1 _ rfl, blk_cell k1 0 _ rfl, blk_cell k1 1 _ rfl, blk_frozen k1 0, blk_frozen k1 1⟩
        rw [HTE.out]
        exact h1
      have q1 := blk_cell HB10.out.bu.bb 0 _ rfl
      have x0 := blk_cell HB10.out.fx 0 _ rfl
      have x1 := blk_cell HB10.out.fx 1 _ rfl
      refine wpIn_then ?_
      gi_region_with ((gi_at_call 70; refine (callsIn_wide.2 HFT.out).mono ?_; rintro e wz ⟨ca, cn, cc, rfl, AE, t0, t1, t2, t3, t4, t5⟩))
      all_goals
        obtain ⟨kf1, kf2⟩ := HBD.out.keep AE.out.gr
        have k0 := (HBD.out.bu.setB AE.out.ob AE.out.gr AE.out.pl).1 0 (by omega) _ HBD.out.bu.fil
        have k4 := (HBD.out.bu.setB AE.out.ob AE.out.gr AE.out.pl).1 4 (by omega) _ HBD.out.bu.dfr
        have ubz : Below w.heap.size w wz := HBD.out.bu.below.grown AE.out.gr HBD.out.bu.below.size (fun k hk => by have := (HBD.out.bu.ob.lt k hk).1; omega)
        have g1 := grown_set wz ⟨w.heap.size, 0, none⟩ (.int .i64 FL.1)
        have g2 := grown_set (wz.setCell ⟨w.heap.size, 0, none⟩ (.int .i64 FL.1)) ⟨w.heap.size, 1, none⟩ (.slice ma mn mc)
        have FIN : Hid (((wz.setCell ⟨w.heap.size, 0, none⟩ (.int .i64 FL.1)).setCell ⟨w.heap.size, 1, none⟩ (.slice ma mn mc)).heap[w.heap.size]? = some (.cells #[.int .i64 FL.1, .slice ma mn mc] 57) ∧ ((wz.setCell ⟨w.heap.size, 0, none⟩ (.int .i64 FL.1)).setCell ⟨w.heap.size, 1, none⟩ (.slice ma mn mc)).heap[w.heap.size + 4]? = some (.deferred (some [])) ∧ OwnB ((wz.setCell ⟨w.heap.size, 0, none⟩ (.int .i64 FL.1)).setCell ⟨w.heap.size, 1, none⟩ (.slice ma mn mc)) (w.heap.size + 6) (.slice ca cn cc) TB ∧ OwnB ((wz.setCell ⟨w.heap.size, 0, none⟩ (.int .i64 FL.1)).setCell ⟨w.heap.size, 1, none⟩ (.slice ma mn mc)) (w.heap.size + 6) (.slice ma mn mc) FL.2 ∧ Below w.heap.size w ((wz.setCell ⟨w.heap.size, 0, none⟩ (.int .i64 FL.1)).setCell ⟨w.heap.size, 1, none⟩ (.slice ma mn mc))) := by
          refine ⟨blk_set (blk_set k0 0 _) 1 _, blk_grown (blk_grown k4 g1 (by simp)) g2 (by simp), (AE.out.ob.apart g1 (fun k hk => by simp at hk; omega)).apart g2 (fun k hk => by simp at hk; omega), (kf2.apart g1 (fun k hk => by simp at hk; omega)).apart g2 (fun k hk => by simp at hk; omega), ?_⟩
          have u1 := ubz.grown g1 ubz.size (fun j hj => by simp at hj; omega)
          exact u1.grown g2 u1.size (fun j hj => by simp at hj; omega)
        have HCN : Hid (cn = TB.length) := own_n AE.out.ob
        clear kf1 kf2 k0 k4 ubz g1 g2 AE t0 t1 t2 t3 t4 t5 HB10 HBD HFT q1 x0 x1
        generalize (wz.setCell ⟨w.heap.size, 0, none⟩ (.int .i64 FL.1)).setCell ⟨w.heap.size, 1, none⟩ (.slice ma mn mc) = WZ at *
        gi_wp2_with fail
        obtain ⟨f1, f2, f3, f4, f5⟩ := FIN.out
        refine ⟨by simp, .inl ⟨_, _, rfl, run_takeDeferred (ds := []) f2, ?_⟩⟩
        have g3 := grownBy_putObj' WZ (w.heap.size + 4) (.deferred none)
        refine ⟨_, results_bld rfl _ _ rfl rfl (blk_grown f1 g3 (by simp)), ?_⟩
        unfold BldE
        rw [HFL.out, HTB.out]
        exact ⟨ca, cn, cc, ma, mn, mc, rfl, ⟨HCN.out, OwnB.mono (f3.apart g3 (fun k hk => by simp at hk; omega)) (by omega)⟩, ⟨hmn.out, OwnB.mono (f4.apart g3 (fun k hk => by simp at hk; omega)) (by omega)⟩, f5.grown g3 f5.size (fun j hj => by simp at hj; omega)⟩
    · cases hF
  case hY =>
    rintro i W0 hi ⟨ba, bn, bc, ia, im, ic, H⟩
    obtain ⟨q, hq⟩ : ∃ q, q = 16 * i := ⟨_, rfl⟩
    rw [← hq] at hi ⊢
    have HQI : Hid (q = 16 * i) := hq
    unfold partV
    obtain ⟨rr, hrr⟩ : ∃ rr, rr = min (q + 16) n := ⟨_, rfl⟩
    rw [← hrr]
    have HCK : Hid (∀ W : World, Below w.heap.size w W → EntsR W (.slice (some ⟨b, off + q * 4, none⟩) (rr - q) (c - q)) (chunkT l i)) := fun W hW => chunk_part HL.out hc hq hi hrr (HV.out.up hW)
    obtain ⟨b', off', cap', x, e, hx, z0, _⟩ := HV.out.at q (by rw [HL.out]; exact hi)
    simp only [Value.slice.injEq, Option.some.injEq, Addr.mk.injEq] at e
    obtain ⟨⟨rfl, rfl, _⟩, enn, rfl⟩ := e
    clear enn
    have HZ : Hid (∀ W : World, Below w.heap.size w W → W.cell? ⟨b, off + q * 4, none⟩ = some (.string x.key)) := fun W hW => (hW.cell (World.block_lt_of_cell? _ _ z0)).trans z0
    have hchk : chkB (chunkT l i) = 0 := chunk_chk HORD.out (by rw [HL.out]; omega)
    have HFT : Hid (firstT (chunkT l i) = nums x.key) := chunk_first hq hx
    have HXK : Hid (x.key.size ≤ 1000000) := by
      have hm := ordE_may l none HORD.out x (List.mem_of_getElem? hx)
      have := (mayE_le hm).2.1
      unfold Hid
      rw [← nums_length]
      omega
    have HEN : Hid (∀ W : World, Below w.heap.size w W → Calls Tryz.prog 64 #[.slice (some ⟨b, off + q * 4, none⟩) (rr - q) (c - q)] W fun e w' => ∃ a n c y, e = .returned (.tuple #[.slice a n c, .int .i64 y]) ∧ Hid (n = (encB (chunkT l i)).1.length) ∧ Hid (Octs w' (.slice a n c) (encB (chunkT l i)).1) ∧ Hid (Below W.heap.size W w')) := fun W hW => by
      refine (encP_law _ _ W (HCK.out W hW)).mono ?_
      rintro e w' ⟨a, n, c, rfl, h1, h2, h3⟩
      exact ⟨a, n, c, _, rfl, h1, Octs.own h2.out (encB_oct _), h3⟩
    have HXL : Hid ((encB (chunkT l i)).1.length ≤ 41500 ∧ (encB (chunkT l i)).1 ≠ []) := by
      refine ⟨encB_len' _, fun e => ?_⟩
      have := encB_pos hchk
      rw [e] at this
      simp at this
    have HBL : Hid ((blkT l i).length ≤ 41500 * 256 ∧ (idxT l i).length ≤ 114 * 256) := by
      have h1 := blkT_len l i
      have h2 := idxT_len HORD.out i (fun j hj => by rw [HL.out]; omega)
      have h3 : i ≤ 256 := by omega
      exact ⟨Nat.le_trans h1 (Nat.mul_le_mul_left _ h3), Nat.le_trans h2 (Nat.mul_le_mul_left _ h3)⟩
    have HB1 : Hid (blkT l (i + 1) = blkT l i ++ (encB (chunkT l i)).1) := blkT_succ l i
    have HI1 : Hid (idxT l (i + 1) = idxT l i ++ (octets ((encB (chunkT l i)).1.length : Int) ++ (octets ((nums x.key).length : Int) ++ nums x.key))) := by
      unfold Hid
      rw [idxT_succ, idxE, HFT.out]
    have hqr : q < rr := by omega
    clear hq hx z0 hchk HCK hrr
    refine ⟨r.fn, _, r.assign, r.body, run_yield H.loop (by rw [r4]; rfl), roundIn_of_wpIn trivial ?_⟩
    rw [r3, r4, r5, r6]
    gi_wp2_with fail
    refine ⟨_, run_beginRound H.loop r1, ?_⟩
    have H2 := H.put { r with state := .busy }
    generalize W0.putObj (w.heap.size + 5) (.loop { r with state := .busy }) = Wb at *
    have HB := hid H2
    have HR : Hid (r.state = .ready ∧ r.pending = none) := ⟨r1, r2⟩
    clear H H2 J0 c0 c1 c2 c3 u3 r1 r2 r3 r4 r5 r6
    generalize (encB (chunkT l i)).1 = X at *
    generalize blkT l i = B at *
    generalize idxT l i = I at *
    gi_wp2_with fail
    refine (CallsIn.inRound _ (callsIn_wide.2 (HEN.out _ HB.out.below))).mono ?_
    rintro e W4 ⟨xa, xn, xc, xy, rfl, hxn, XO, b4⟩
    have HB4 := hid (HB.out.up b4.out)
    clear HEN HB b4
    have q1 := blk_cell HB4.out.bb 0 _ rfl
    have HZ1 : Hid (B.length + X.length ≤ 140737488355328) := by have := HXL.out.1; have := HBL.out.1; unfold Hid; omega
    gi_wp2_with (gi_at_builtin; (refine wpListIn_append_octs_at W4 rfl _ _ rfl (w.heap.size + 6) (.slice ba bn bc) B rfl HB4.out.ob (.slice xa xn xc) X rfl XO.out HXL.out.2 HZ1.out HB4.out.hb ?_))
    intro v5 W5 ho hg ha
    obtain ⟨ba5, bn5, bc5, rfl, _⟩ := own_shape ho
    obtain ⟨key, H6⟩ := HB4.out.setB ho hg (ha.imp id fun h => ⟨_, h, Nat.le_refl _⟩)
    have p1 := blk_cell (key 1 (by omega) _ HB4.out.bb) 0 _ rfl
    have p2 := blk_frozen (key 1 (by omega) _ HB4.out.bb) 0
    have HB6 := hid H6
    clear ho hg ha key H6 HB4 q1 XO
    gi_wp2_with fail
    generalize W5.setCell ⟨w.heap.size + 1, 0, none⟩ (.slice ba5 bn5 bc5) = W6 at *
    have HB7 := hid (HB6.out.up (show Below W6.heap.size W6 W6.drew from ⟨rfl, rfl, rfl, Nat.le_refl _, fun _ _ => rfl⟩))
    have HROW : Hid (Calls Tryz.prog 65 #[.slice ia im ic, .int .i64 xn, .string x.key] W6.drew fun e w' => ∃ a' n' c', e = .returned (.slice a' n' c') ∧ Hid (AppE W6.drew (w.heap.size + 6) (.slice ia im ic) (.slice a' n' c') (idxT l (i + 1)) w') ∧ w'.cell? ⟨w.heap.size + 1 + 1, 0, none⟩ = some (.slice ia im ic) ∧ w'.frozen? ⟨w.heap.size + 1 + 1, 0, none⟩ = false) := by
      have hL := HXL.out.1
      have hB := HBL.out.2
      have hn := hxn.out
      refine (row_any xn x.key (w.heap.size + 6) ia im ic I W6.drew HB7.out.oi HB7.out.hb (by omega) HXK.out (by omega)).mono ?_
      rintro e w' ⟨a', n', c', rfl, h1⟩
      have k1 := (HB7.out.setI h1.out.ob h1.out.gr h1.out.pl).1 2 (by omega) _ HB7.out.ib
      refine ⟨a', n', c', rfl, ?_, blk_cell k1 0 _ rfl, blk_frozen k1 0⟩
      unfold Hid
      rw [HI1.out, ← hn]
      exact h1.out
    have s1 : W6.cell? ⟨w.heap.size + 1 + 1, 0, none⟩ = some (.slice ia im ic) := blk_cell HB6.out.ib 0 _ rfl
    have s2 := HZ.out W6 HB6.out.below
    have s3 : (0 : Int) < ((rr - q : Nat) : Int) := by omega
    have s4 : 0 < rr - q := by omega
    clear p1 p2
    refine wpIn_region_any (by kernel_rfl) ?_
    change wpAnyIn _ _ _ _ _ _ _ _ _ (World.drew _)
    refine wpAnyIn_round (F := Fence.wide) _ (noDefer_spec (by kernel_rfl)) rfl _ _ _ _ ?_
    refine wpAnyIn_take (i := 1) (v := ?v1) rfl rfl (by kernel_rfl) (by kernel_rfl) (by kernel_rfl) (fun _ _ _ h => h) ⟨Or.inl ⟨by rfl, ?y1⟩, fun _ => rfl⟩ ?_
    case y1 => (intro w; go_simp; try with_reducible rfl)
    refine wpAnyIn_take (i := 2) (v := ?v2) rfl rfl (by kernel_rfl) (by kernel_rfl) (by kernel_rfl) (fun _ _ _ h => h) ⟨Or.inl ⟨by rfl, ?y2⟩, fun _ => rfl⟩ ?_
    case y2 => (intro w; go_simp; try with_reducible rfl)
    refine wpAnyIn_take (i := 3) (v := ?v3) rfl rfl (by kernel_rfl) (by kernel_rfl) (by kernel_rfl) (fun _ _ _ h => h) ⟨Or.inl ⟨by rfl, ?y3⟩, fun _ => rfl⟩ ?_
    case y3 => (intro w; go_simp; try with_reducible rfl)
    refine wpAnyIn_take (i := 4) (v := ?v4) rfl rfl (by kernel_rfl) (by kernel_rfl) (by kernel_rfl) (fun _ _ _ h => h) ⟨Or.inl ⟨by rfl, ?y4⟩, fun _ => rfl⟩ ?_
    case y4 => (intro w; go_simp; try with_reducible rfl)
    refine wpAnyIn_take (i := 5) (v := ?v5) rfl rfl (by kernel_rfl) (by kernel_rfl) (by kernel_rfl) (fun _ _ _ h => h) ⟨Or.inl ⟨by rfl, ?y5⟩, fun _ => rfl⟩ ?_
    case y5 => (intro w; go_simp; try with_reducible rfl)
    refine wpAnyIn_ready (rs := [0, 6]) (by kernel_rfl) (by simp) ?_
    refine AllReadyIn.cons rfl (fun K hK => ?_) (AllReadyIn.cons rfl (fun K hK => ?_) AllReadyIn.nil)
    · go_simp
      refine hK _ _ ?_
      clear hK K
      refine wpAnyIn_ready (rs := [6]) (by kernel_rfl) (by simp) ?_
      refine AllReadyIn.cons rfl (fun K hK => ?_) AllReadyIn.nil
      go_simp
      refine hK _ _ ?_
      clear hK K
      refine wpAnyIn_ready (rs := [7]) (by kernel_rfl) (by simp) ?_
      refine AllReadyIn.cons rfl (fun K hK => ?_) AllReadyIn.nil
      go_simp
      refine (callsIn_wide.2 HROW.out).mono ?_
      rintro e w7 ⟨ja, jn, jc, rfl, AE, t1, t2⟩
      refine hK _ _ ?_
      clear hK K
      refine wpAnyIn_ready (rs := [8]) (by kernel_rfl) (by simp) ?_
      refine AllReadyIn.cons rfl (fun K hK => ?_) AllReadyIn.nil
      go_simp
      refine hK _ _ ?_
      clear hK K
      refine wpAnyIn_done (by kernel_rfl) ?_ _
      have H8 := (HB7.out.setI AE.out.ob AE.out.gr AE.out.pl).2
      rw [← HB1.out] at H8
      have HB8 := hid H8
      clear H8 AE t1 t2 s1 s2
      generalize w7.setCell ⟨w.heap.size + 1 + 1, 0, none⟩ (.slice ja jn jc) = W8 at *
      gi_wp2_with fail
      have hend := run_endRound (P := Tryz.prog) none HB8.out.loop
      have hrr2 : ({ ({ r with state := .busy } : Loop) with state := if (none : Option Code).isNone then LoopState.ready else LoopState.done, pending := none } : Loop) = r := by
        obtain ⟨r1, r2⟩ := HR.out
        cases r
        simp at r1 r2
        subst r1 r2
        rfl
      rw [hrr2] at hend
      exact ⟨_, _, hend, rfl, _, _, _, _, _, _, HB8.out.put r⟩
    · go_simp
      refine hK _ _ ?_
      clear hK K
      refine wpAnyIn_ready (rs := [0]) (by kernel_rfl) (by simp) ?_
      refine AllReadyIn.cons rfl (fun K hK => ?_) AllReadyIn.nil
      go_simp
      refine hK _ _ ?_
      clear hK K
      refine wpAnyIn_ready (rs := [7]) (by kernel_rfl) (by simp) ?_
      refine AllReadyIn.cons rfl (fun K hK => ?_) AllReadyIn.nil
      go_simp
      refine (callsIn_wide.2 HROW.out).mono ?_
      rintro e w7 ⟨ja, jn, jc, rfl, AE, t1, t2⟩
      refine hK _ _ ?_
      clear hK K
      refine wpAnyIn_ready (rs := [8]) (by kernel_rfl) (by simp) ?_
      refine AllReadyIn.cons rfl (fun K hK => ?_) AllReadyIn.nil
      go_simp
      refine hK _ _ ?_
      clear hK K
      refine wpAnyIn_done (by kernel_rfl) ?_ _
      have H8 := (HB7.out.setI AE.out.ob AE.out.gr AE.out.pl).2
      rw [← HB1.out] at H8
      have HB8 := hid H8
      clear H8 AE t1 t2 s1 s2
      generalize w7.setCell ⟨w.heap.size + 1 + 1, 0, none⟩ (.slice ja jn jc) = W8 at *
      gi_wp2_with fail
      have hend := run_endRound (P := Tryz.prog) none HB8.out.loop
      have hrr2 : ({ ({ r with state := .busy } : Loop) with state := if (none : Option Code).isNone then LoopState.ready else LoopState.done, pending := none } : Loop) = r := by
        obtain ⟨r1, r2⟩ := HR.out
        cases r
        simp at r1 r2
        subst r1 r2
        rfl
      rw [hrr2] at hend
      exact ⟨_, _, hend, rfl, _, _, _, _, _, _, HB8.out.put r⟩
end Go.Proofs.YthiegmhplnbdlaaGreat
