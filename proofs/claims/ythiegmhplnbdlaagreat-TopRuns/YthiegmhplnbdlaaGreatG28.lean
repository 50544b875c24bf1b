/- Texts of layers 1 to 13, in this order. -/
import Derived.Test.YthiegmhplnbdlaaGreatG27
import Derived.Test.YthiegmhplnbdlaaGreatG25
import Derived.Test.YthiegmhplnbdlaaGreatG21
import Derived.Lib.SlBytesConst

namespace Go.Proofs.YthiegmhplnbdlaaGreat
open Go.RowKit Go.Shelf
set_option linter.unusedVariables false
set_option linter.unusedSimpArgs false
set_option maxRecDepth 20000
attribute [local go_sem] Oper.semAt_some
theorem ord_mid : ∀ (a : List En) (p : Option En) (y : En) (rest : List En), ordE p (a ++ [y]) = 0 → ordE p (a ++ (y :: rest)) = ordE none (y :: rest)
  | [], p, y, rest, h => by
    simp only [List.nil_append, ordE] at h ⊢
    by_cases hm : mayE y = true
    · rw [if_pos hm] at h ⊢
      by_cases ha : aheadE p y = true
      · rw [if_pos ha, if_pos hm, if_pos (show aheadE none y = true from rfl)]
      · rw [if_neg ha] at h; cases h
    · rw [if_neg hm] at h; cases h
  | x :: a, p, y, rest, h => by
    rw [List.cons_append, ordE] at h
    rw [List.cons_append, ordE]
    by_cases hm : mayE x = true
    · rw [if_pos hm] at h ⊢
      by_cases ha : aheadE p x = true
      · rw [if_pos ha] at h ⊢
        exact ord_mid a (some x) y rest h
      · rw [if_neg ha] at h; cases h
    · rw [if_neg hm] at h; cases h
theorem ord_stop : ∀ (a b : List En) (p : Option En), ordE p a ≠ 0 → ordE p (a ++ b) = ordE p a
  | [], b, p, h => absurd rfl h
  | x :: a, b, p, h => by
    rw [List.cons_append, ordE, ordE]
    rw [ordE] at h
    by_cases hm : mayE x = true
    · rw [if_pos hm] at h ⊢
      rw [if_pos hm]
      by_cases ha : aheadE p x = true
      · rw [if_pos ha] at h ⊢
        rw [if_pos ha]
        exact ord_stop a b (some x) h
      · rw [if_neg ha, if_neg ha]
    · rw [if_neg hm, if_neg hm]
theorem seg_chk (l : List En) (q r f : Nat) (hq : q < r) (hr : r ≤ l.length) (h16 : r ≤ q + 16) (hf : (q = 0 ∧ f = 0) ∨ (q = f + 1)) (h : ordE none (l.take q) = 0) : chkB ((l.drop f).take (r - f)) = ordE none (l.take r) := by
  have hlen : ((l.drop f).take (r - f)).length = r - f := by simp; omega
  unfold chkB
  rw [if_neg (by rw [hlen]; omega)]
  rcases hf with ⟨rfl, rfl⟩ | rfl
  · simp
  · have hy : l[f]? = some (l[f]'(by omega)) := List.getElem?_eq_getElem (by omega)
    generalize l[f]'(by omega) = y at hy
    have e1 : l.take (f + 1) = l.take f ++ [y] := by rw [List.take_add_one, hy]; rfl
    have e2 : (l.drop f).take (r - f) = y :: (l.drop (f + 1)).take (r - f - 1) := by
      have hk := (List.getElem?_eq_some_iff.1 hy).1
      rw [List.drop_eq_getElem_cons hk, (List.getElem?_eq_some_iff.1 hy).2]
      obtain ⟨k, hk⟩ : ∃ k, r - f = k + 1 := ⟨r - f - 1, by omega⟩
      rw [hk, List.take_succ_cons]
      rfl
    have e3 : l.take r = l.take f ++ (l.drop f).take (r - f) := by
      rw [show r = f + (r - f) by omega, List.take_add]
      congr 2
      omega
    rw [e3, e2]
    rw [e1] at h
    exact (ord_mid _ _ _ _ h).symm
theorem ord_bad {l : List En} {r : Nat} (h : ordE none (l.take r) ≠ 0) : ordE none l = ordE none (l.take r) := by
  have := ord_stop (l.take r) (l.drop r) none h
  rwa [List.take_append_drop] at this
theorem results_err1 {fn : Func} {q : Nat} (h : fn.results = #[.cell q 29]) (tmps : Array Value) (w : World) {N : Nat} {y : Value} (ht : tmps.getD q undef = .pointer (some ⟨N, 0, none⟩))
    (hc : w.heap[N]? = some (.cells #[y] 29)) : (results fn tmps).run Tryz.prog w = .ok y w := by
  have c0 := blk_cell hc 0 y rfl
  have ht' : tmps[q]?.getD undef = .pointer (some ⟨N, 0, none⟩) := by simpa using ht
  simp only [results, h]
  simp [ht', go_sem, c0]
structure ChW (w : World) (v : Value) (y : Int) (r : Loop) (W : World) : Prop where
  box : W.heap[w.heap.size]? = some (.cells #[v] 42)
  res : W.heap[w.heap.size + 1]? = some (.cells #[.int .i64 y] 29)
  cbox : W.heap[w.heap.size + 2]? = some (.cells #[v] 42)
  dfr : W.heap[w.heap.size + 3]? = some (.deferred (some []))
  loop : W.heap[w.heap.size + 4]? = some (.loop r)
  below : Below w.heap.size w W
theorem ChW.put {w : World} {v : Value} {y : Int} {r : Loop} {W : World} (H : ChW w v y r W) (r' : Loop) : ChW w v y r' (W.putObj (w.heap.size + 4) (.loop r')) := by
  have g := grownBy_putObj' W (w.heap.size + 4) (.loop r')
  exact ⟨blk_grown H.box g (by simp), blk_grown H.res g (by simp), blk_grown H.cbox g (by simp), blk_grown H.dfr g (by simp), World.putObj_heap_same (blk_lt H.loop), H.below.grown g H.below.size (fun j hj => by simp at hj; omega)⟩
theorem ChW.up {w : World} {v : Value} {y : Int} {r : Loop} {W W' : World} (H : ChW w v y r W) (h : Below W.heap.size W W') : ChW w v y r W' :=
  ⟨blk_up H.box h, blk_up H.res h, blk_up H.cbox h, blk_up H.dfr h, blk_up H.loop h, up_trans H.below h⟩
theorem ChW.set {w : World} {v : Value} {y : Int} {r : Loop} {W : World} (H : ChW w v y r W) (y' : Int) : ChW w v y' r (W.setCell ⟨w.heap.size + 1, 0, none⟩ (.int .i64 y')) := by
  have g := grown_set W ⟨w.heap.size + 1, 0, none⟩ (.int .i64 y')
  exact ⟨blk_grown H.box g (by simp), blk_set H.res 0 _, blk_grown H.cbox g (by simp), blk_grown H.dfr g (by simp), blk_grown H.loop g (by simp), H.below.grown g H.below.size (fun j hj => by simp at hj; omega)⟩
set_option maxHeartbeats 4000000 in
theorem checkT_any (l : List En) (v : Value) (w : World) (hv : EntsR w v l) :
    Calls Tryz.prog 38 #[v] w fun e w' => e = .returned (.int .i64 (chkT l)) ∧ Hid (Below w.heap.size w w') := by
  have HV : Hid (EntsR w v l) := hv
  obtain ⟨a, c, rfl, hc, hm⟩ := hv.len
  clear hv
  obtain ⟨n, hn⟩ : ∃ n, n = l.length := ⟨_, rfl⟩
  have HL : Hid (l.length = n) := hn.symm
  rw [← hn] at HV hc ⊢
  refine (callsIn_wide (n := 9)).1 ?_
  refine callsIn_of_wp_marks Tryz.func38 rfl trivial ?_ rfl
  simp only [Tryz.ntmps38, List.size_toArray, List.length_cons, List.length_nil, Nat.reduceAdd, Nat.reduceSub, Array.replicate_succ, Array.replicate_zero, List.push_toArray, List.append_toArray, List.nil_append, List.cons_append]
  have hsmall : ∀ (h : n < 1 ∨ 4096 < n), chkT l = 3 := fun h => by unfold chkT; rw [if_pos (by rw [← hn]; exact h)]
  by_cases h1 : n < 1
  · have h1' : (n : Int) < 1 := by omega
    have HQ := hid (hsmall (.inl h1))
    clear hsmall hn
    gi_wp2
    refine ⟨_, results_err1 (q := 2) (y := .int .i64 3) rfl _ _ rfl (blk_nw _ _ (by simp)), ?_⟩
    rw [HQ.out]
    exact ⟨rfl, up_al (up_alloc _ _) _⟩
  · have h1' : ¬ (n : Int) < 1 := by omega
    by_cases h2 : 4096 < n
    · have h2' : (4096 : Int) < (n : Int) := by omega
      have HQ := hid (hsmall (.inr h2))
      clear hsmall hn
      gi_wp2
      refine ⟨_, results_err1 (q := 2) (y := .int .i64 3) rfl _ _ rfl (blk_nw _ _ (by simp)), ?_⟩
      rw [HQ.out]
      exact ⟨rfl, up_al (up_alloc _ _) _⟩
    · have h2' : ¬ (4096 : Int) < (n : Int) := by omega
      have HQ : Hid (chkT l = ordE none l) := by unfold Hid chkT; rw [if_neg (by rw [← hn]; omega)]
      obtain ⟨b, off, cap, x, e, _⟩ := HV.out.at 0 (by omega)
      simp only [Value.slice.injEq] at e
      obtain ⟨rfl, enn, rfl⟩ := e
      clear enn
      have HCU := hid (fun w => cut_any (some ⟨b, off, none⟩) n c w)
      clear hsmall hn
      gi_wp2
      refine ⟨trivial, ?_⟩
      refine (callsIn_wide.2 (HCU.out _)).mono ?_
      rintro e w1 ⟨rfl, rfl⟩
      gi_wp2
      obtain ⟨w3, hw3⟩ : ∃ w3 : World, w3 = ((w.alloc (.cells #[.slice (some ⟨b, off, none⟩) n c] 42)).alloc (.cells #[.int .i64 0] 29)).alloc (.cells #[.slice (some ⟨b, off, none⟩) n c] 42) := ⟨_, rfl⟩
      have d3 : w3.heap.size = w.heap.size + 3 := by rw [hw3]; simp
      have c0 : w3.heap[w.heap.size]? = some (.cells #[.slice (some ⟨b, off, none⟩) n c] 42) := by rw [hw3]; exact blk_al (blk_al (blk_nw _ _ (by simp)) _) _
      have c1 : w3.heap[w.heap.size + 1]? = some (.cells #[.int .i64 0] 29) := by rw [hw3]; exact blk_al (blk_nw _ _ (by simp)) _
      have c2 : w3.heap[w.heap.size + 2]? = some (.cells #[.slice (some ⟨b, off, none⟩) n c] 42) := by rw [hw3]; exact blk_nw _ _ (by simp)
      have u3 : Below w.heap.size w w3 := by rw [hw3]; exact up_al (up_al (up_alloc _ _) _) _
      rw [← hw3]
      clear hw3
      refine range_law rfl (enters_of Tryz.func89 (by kernel_rfl) rfl) ?_
      intro r r1 r2 r3 r4 r5 r6
      rw [d3]
      have J0 : ChW w (.slice (some ⟨b, off, none⟩) n c) 0 r ((w3.alloc (.deferred (some []))).alloc (.loop r)) := by
        refine ⟨blk_al (blk_al c0 _) _, blk_al (blk_al c1 _) _, blk_al (blk_al c2 _) _, blk_al (blk_nw _ _ (by omega)) _, blk_nw _ _ (by simp; omega), up_al (up_al u3 _) _⟩
      generalize (w3.alloc (.deferred (some []))).alloc (.loop r) = W1 at *
      obtain ⟨rd, hrd⟩ : ∃ rd : Loop, rd = { r with state := .done, pending := some .ret } := ⟨_, rfl⟩
      have rd1 : rd.state = .done := by rw [hrd]
      have rd2 : rd.pending = some .ret := by rw [hrd]
      have HRD : Hid (rd = { r with state := .done, pending := some .ret }) := hrd
      clear hrd
      refine (cut_in 8 (w.heap.size + 4) (w.heap.size + 2) b off n c hc (by omega)
        (fun i W => ordE none (l.take (16 * i)) = 0 ∧ ChW w (.slice (some ⟨b, off, none⟩) n c) 0 r W)
        (fun W => ordE none l ≠ 0 ∧ ChW w (.slice (some ⟨b, off, none⟩) n c) (ordE none l) rd W) W1 ?hY ?hK ⟨by simp [ordE], J0⟩).mono ?post
      case hK =>
        rintro i W' ⟨_, H⟩
        exact blk_cell H.cbox 0 _ rfl
      case post =>
        rintro e W' ⟨hv, hor⟩
        refine ⟨hv, ?_⟩
        rcases hor with ⟨hs, H⟩ | ⟨hs, H⟩
        · refine ⟨r, H.loop, (by rw [r1]; simp), .inl ⟨r2, ?_⟩⟩
          have H2 := H.put { r with state := .exhausted }
          have HH := hid H2
          generalize W'.putObj (w.heap.size + 4) (.loop { r with state := .exhausted }) = W2 at *
          have q1 := blk_cell H2.res 0 _ rfl
          have q3 := blk_frozen H2.res 0
          have HF : Hid (chkT l = 0) := by
            unfold Hid
            rw [HQ.out]
            rw [List.take_of_length_le (by rw [HL.out]; omega)] at hs
            exact hs
          clear H H2 J0 hs c0 c1 c2 u3 r1 r2 r3 r4 r5 r6 rd1 rd2
          gi_wp2
          have HS := HH.out.set 0
          generalize W2.setCell ⟨w.heap.size + 1, 0, none⟩ (.int .i64 0) = W3 at *
          refine ⟨by simp, .inl ⟨_, _, rfl, run_takeDeferred (ds := []) HS.dfr, ?_⟩⟩
          have g3 := grownBy_putObj' W3 (w.heap.size + 3) (.deferred none)
          refine ⟨_, results_err1 (q := 2) (y := .int .i64 0) rfl _ _ rfl (blk_grown HS.res g3 (by simp)), ?_, HS.below.grown g3 HS.below.size (fun j hj => by simp at hj; omega)⟩
          rw [HF.out]
        · refine ⟨rd, H.loop, by rw [rd1]; simp, .inr ⟨rd2, ?_⟩⟩
          have H2 := H.put { rd with state := .exhausted }
          generalize W'.putObj (w.heap.size + 4) (.loop { rd with state := .exhausted }) = W2 at *
          refine ⟨by simp, .inl ⟨_, _, rfl, run_takeDeferred (ds := []) H2.dfr, ?_⟩⟩
          have g3 := grownBy_putObj' W2 (w.heap.size + 3) (.deferred none)
          refine ⟨_, results_err1 (q := 2) (y := .int .i64 (ordE none l)) rfl _ _ rfl (blk_grown H2.res g3 (by simp)), ?_, H2.below.grown g3 H2.below.size (fun j hj => by simp at hj; omega)⟩
          rw [HQ.out]
      case hY =>
        rintro i W0 hi ⟨hs, H⟩
        obtain ⟨q, hq⟩ : ∃ q, q = 16 * i := ⟨_, rfl⟩
        rw [← hq] at hi hs ⊢
        have HQI : Hid (q = 16 * i) := hq
        clear hq
        unfold partV
        obtain ⟨rr, hrr⟩ : ∃ rr, rr = min (q + 16) n := ⟨_, rfl⟩
        rw [← hrr]
        obtain ⟨f, hf, hfi⟩ : ∃ f : Nat, ((q = 0 ∧ f = 0) ∨ (q = f + 1)) ∧ (if (q : Int) - 1 < 0 then (0 : Int) else (q : Int) - 1) = (f : Int) := by
          by_cases h0 : q = 0
          · exact ⟨0, .inl ⟨h0, rfl⟩, by rw [if_pos (by omega)]; rfl⟩
          · exact ⟨q - 1, .inr (by omega), by rw [if_neg (by omega)]; omega⟩
        have hseg := seg_chk l q rr f (by omega) (by rw [HL.out]; omega) (by omega) hf hs
        have hw1 : IntKind.i64.wrap ((q : Int) - 1) = (q : Int) - 1 := by rw [IntKind.wrap_i64]; omega
        have hrq : ((rr - q : Nat) : Int) = (rr : Int) - (q : Int) := by omega
        have hw2 : (q : Int) + ((rr : Int) - (q : Int)) = (rr : Int) := by omega
        have hw3 : IntKind.i64.wrap (rr : Int) = (rr : Int) := by rw [IntKind.wrap_i64]; omega
        have f1 : f ≤ rr := by omega
        have f2 : rr ≤ n := by omega
        have f3 : rr ≤ c := by omega
        have f4 : ¬ c = f := by omega
        have hnext : 16 * (i + 1) = q + 16 := by have := HQI.out; omega
        have HNX : Hid (l.take (16 * (i + 1)) = l.take rr) := by
          unfold Hid
          rw [hnext]
          by_cases h9 : q + 16 ≤ n
          · rw [hrr, Nat.min_eq_left h9]
          · rw [List.take_of_length_le (by rw [HL.out]; omega), List.take_of_length_le (by rw [HL.out]; omega)]
        have HSG : Hid (chkB ((l.drop f).take (rr - f)) = ordE none (l.take rr)) := hseg
        have HEN := hid (HV.out)
        clear hseg hf hs hrr hnext
        refine ⟨r.fn, _, r.assign, r.body, run_yield H.loop (by rw [r4]; rfl), roundIn_of_wpIn trivial ?_⟩
        rw [r3, r4, r5, r6]
        gi_wp2
        refine ⟨_, run_beginRound H.loop r1, ?_⟩
        have H2 := H.put { r with state := .busy }
        generalize W0.putObj (w.heap.size + 4) (.loop { r with state := .busy }) = Wb at *
        have HB := hid H2
        have q1 := blk_cell H2.box 0 _ rfl
        have HR : Hid (r.state = .ready ∧ r.pending = none) := ⟨r1, r2⟩
        clear H H2 J0 c0 c1 c2 u3 r1 r2 r3 r4 r5 r6 rd1 rd2
        have HCK : Hid (∀ W : World, Below w.heap.size w W → Calls Tryz.prog 63 #[.slice (some ⟨b, off + f * 4, none⟩) (rr - f) (c - f)] W fun e w' => e = .returned (.int .i64 (ordE none (l.take rr))) ∧ Hid (Below W.heap.size W w')) := by
          intro W hW
          have hE : EntsR W (.slice (some ⟨b, off, none⟩) l.length c) l := by rw [HL.out]; exact HEN.out.up hW
          have := ents_mid hE f rr f1 (by rw [HL.out]; exact f2) (by rw [HL.out]; omega)
          rw [if_neg f4] at this
          have h := checkP_any _ _ _ this
          rw [HSG.out] at h
          exact h
        have HBad : Hid (ordE none (l.take rr) ≠ 0 → ordE none l = ordE none (l.take rr)) := ord_bad
        clear HSG
        obtain ⟨er, her0⟩ : ∃ er, er = ordE none (l.take rr) := ⟨_, rfl⟩
        have HER : Hid (er = ordE none (l.take rr)) := her0
        rw [← her0] at HCK HBad
        clear her0
        gi_wp2
        refine ⟨trivial, (CallsIn.inRound _ (callsIn_wide.2 (HCK.out _ HB.out.below))).mono ?_⟩
        rintro e W4 ⟨rfl, b4⟩
        have HB4 := hid (HB.out.up b4.out)
        clear HCK HB b4 q1
        by_cases her : er = 0
        · subst her
          gi_wp2
          have hend := run_endRound (P := Tryz.prog) none HB4.out.loop
          have hrr2 : ({ ({ r with state := .busy } : Loop) with state := if (none : Option Code).isNone then LoopState.ready else LoopState.done, pending := none } : Loop) = r := by
            obtain ⟨r1, r2⟩ := HR.out
            cases r
            simp at r1 r2
            subst r1 r2
            rfl
          rw [hrr2] at hend
          refine ⟨_, _, hend, .inl ⟨rfl, ?_, HB4.out.put r⟩⟩
          rw [HNX.out]
          exact HER.out.symm
        · have her1 : (er == 0) = false := by simp [her]
          have her2 : (er != 0) = true := by simp [her]
          have q1 := blk_cell HB4.out.res 0 _ rfl
          have q3 := blk_frozen HB4.out.res 0
          gi_wp2
          have HB5 := HB4.out.set er
          have hend := run_endRound (P := Tryz.prog) (some .ret) HB5.loop
          have hrr2 : ({ ({ r with state := .busy } : Loop) with state := if (some Code.ret).isNone then LoopState.ready else LoopState.done, pending := some .ret } : Loop) = rd := by
            rw [HRD.out]
            rfl
          rw [hrr2] at hend
          refine ⟨_, _, hend, .inr ⟨rfl, ?_, ?_⟩⟩
          · rw [HBad.out her]; exact her
          · rw [HBad.out her]; exact HB5.put rd
end Go.Proofs.YthiegmhplnbdlaaGreat

namespace Go.Proofs.YthiegmhplnbdlaaGreat
open Go.RowKit SumPlain
set_option linter.unusedVariables false
set_option linter.unusedSimpArgs false
theorem idx3 (n0 n1 n2 : Int) (w : World) : (Instr.index 168 (.agg #[.int .i64 n0, .int .i64 n1, .int .i64 n2]) (.int .i64 0)).run Tryz.prog w = .ok (.int .i64 n0) w ∧ (Instr.index 168 (.agg #[.int .i64 n0, .int .i64 n1, .int .i64 n2]) (.int .i64 1)).run Tryz.prog w = .ok (.int .i64 n1) w ∧ (Instr.index 168 (.agg #[.int .i64 n0, .int .i64 n1, .int .i64 n2]) (.int .i64 2)).run Tryz.prog w = .ok (.int .i64 n2) w := ⟨by kernel_rfl, by kernel_rfl, by kernel_rfl⟩
theorem four_int (n : Nat) (hn : n < 4294967296) : ((fourL n).map (Value.int .u8)).toArray = #[.int .u8 ((n : Int) / 16777216), .int .u8 ((n : Int) / 65536 % 256), .int .u8 ((n : Int) / 256 % 256), .int .u8 ((n : Int) % 256)] := by
  unfold fourL
  simp only [List.map_cons, List.map_nil]
  rw [show ((n / 16777216 % 256 : Nat) : Int) = (n : Int) / 16777216 by omega, show ((n / 65536 % 256 : Nat) : Int) = (n : Int) / 65536 % 256 by omega, show ((n / 256 % 256 : Nat) : Int) = (n : Int) / 256 % 256 by omega, show ((n % 256 : Nat) : Int) = (n : Int) % 256 by omega]
theorem AppE.other {W : World} {base : Nat} {v0 v : Value} {L : List Int} {W' W2 : World} {r : Option Nat} (h : AppE W base v0 v L W') (hg : W'.grownBy W2 r) (hr : ∀ k, r = some k → W.heap.size ≤ k ∧ v.ownBlock ≠ some k) : AppE W base v0 v L W2 := by
  refine ⟨h.ob.kept hg ?_, ?_, h.pl, Nat.le_trans h.hb hg.size⟩
  · cases e : v.ownBlock with
    | none => exact .inl rfl
    | some g => exact .inr (fun e2 => (hr g e2.symm).2 e)
  · obtain ⟨a1, a2, a3, a4, a5⟩ := h.gr
    obtain ⟨b1, b2, b3, b4, b5⟩ := hg
    refine ⟨b1.trans a1, b2.trans a2, b3.trans a3, Nat.le_trans a4 b4, fun i hi he => ?_⟩
    rw [b5 i (by omega) (by intro e; have := (hr i e.symm).1; omega), a5 i hi he]
structure FtE (W : World) (base : Nat) (v0 : Value) (L : List Int) (NB : Nat) (vt : Value) (T : List Int) (W' : World) : Prop where
  ap : AppE W base v0 v0 L W'
  ot : OwnB W' NB vt T
  h1 : W.heap.size ≤ NB
  h2 : NB ≤ W'.heap.size
  h3 : ∀ k, v0.ownBlock = some k → k < NB
theorem FtE.up {W : World} {base : Nat} {v0 : Value} {L : List Int} {NB : Nat} {vt : Value} {T : List Int} {W' W2 : World} (h : FtE W base v0 L NB vt T W') (hb : Below W'.heap.size W' W2) : FtE W base v0 L NB vt T W2 :=
  ⟨h.ap.up hb, own_up h.ot hb, h.h1, Nat.le_trans h.h2 hb.size, h.h3⟩
theorem FtE.app {W : World} {base : Nat} {v0 : Value} {L : List Int} {NB : Nat} {vt vt' : Value} {T T' : List Int} {W' W2 : World} (h : FtE W base v0 L NB vt T W') (ho : OwnB W2 NB vt' T') (hg : W'.grownBy W2 vt.ownBlock) : FtE W base v0 L NB vt' T' W2 := by
  refine ⟨h.ap.other hg (fun k hk => ?_), ho, h.h1, Nat.le_trans h.h2 hg.size, h.h3⟩
  have := (h.ot.lt k hk).1
  have := h.h1
  exact ⟨by omega, fun e => by have := h.h3 k e; omega⟩
set_option maxHeartbeats 2000000 in
set_option maxRecDepth 100000 in
theorem foot_any (p q m : Nat) (base : Nat) (a : Option Addr) (n c : Nat) (L : List Int) (W : World) (ho : OwnB W base (.slice a n c) L) (hb : base ≤ W.heap.size) (hp : p < 4294967296) (hq : q < 4294967296) (hm : m < 4294967296) (hL : L.length ≤ 1000000000) :
    Calls Tryz.prog 70 #[.slice a n c, .int .i64 p, .int .i64 q, .int .i64 m] W fun e w' => ∃ a' n' c', e = .returned (.slice a' n' c') ∧ Hid (AppE W base (.slice a n c) (.slice a' n' c') (L ++ footO p q m) w') := by
  have A0 : Hid (AppE W base (.slice a n c) (.slice a n c) L W) := AppE.start ho hb
  have CL : Hid (L.length ≤ 1000000000) := hL
  have ix0 := fun w => (idx3 (p : Int) (q : Int) (m : Int) w).1
  have ix1 := fun w => (idx3 (p : Int) (q : Int) (m : Int) w).2.1
  have ix2 := fun w => (idx3 (p : Int) (q : Int) (m : Int) w).2.2
  have kc := fun (w : World) (C : Array Value) (n c : Nat) => Lib.run_convert_bytes_const (P := Tryz.prog) w 25 5 C n c Tryz.underlying25 Tryz.underlying5
  have OT0 : Hid (Octs (W.alloc (.cells #[.int .u8 116, .int .u8 107, .int .u8 116, .int .u8 98] 5 (4, 5))) (.slice (some ⟨W.heap.size, 0, none⟩) 4 4) [116, 107, 116, 98]) := octs_const W [116, 107, 116, 98] rfl (by decide) (4, 5)
  have AT0 : Hid (AppE W base (.slice a n c) (.slice a n c) L (W.alloc (.cells #[.int .u8 116, .int .u8 107, .int .u8 116, .int .u8 98] 5 (4, 5)))) := A0.out.up (up_alloc _ _)
  have F0 := hid (four_int p hp)
  have F1 := hid (four_int q hq)
  have F2 := hid (four_int m hm)
  have HFO := hid (foot_oct p q m)
  clear ho hb hL A0
  go_enter Tryz.func70, Tryz.ntmps70
  go_wp2_with fail
  have HN0 : Hid (W.heap.size < (W.alloc (.cells #[.int .u8 116, .int .u8 107, .int .u8 116, .int .u8 98] 5 (4, 5))).heap.size) := by unfold Hid; simp
  generalize W.alloc (.cells #[.int .u8 116, .int .u8 107, .int .u8 116, .int .u8 98] 5 (4, 5)) = W1 at *
  generalize W.heap.size = N0 at *
  clear kc
  have OQ0 : Hid (Octs (W1.alloc (.cells #[.int .u8 ((p : Int) / 16777216), .int .u8 ((p : Int) / 65536 % 256), .int .u8 ((p : Int) / 256 % 256), .int .u8 ((p : Int) % 256)] 5)) (.slice (some ⟨W1.heap.size, 0, none⟩) 4 4) (fourL p)) := by
    unfold Hid
    rw [← F0.out]
    exact Octs.made W1 (fourL p) (four_oct p) (by rw [four_len]; decide)
  have OT1 : Hid (Octs (W1.alloc (.cells #[.int .u8 ((p : Int) / 16777216), .int .u8 ((p : Int) / 65536 % 256), .int .u8 ((p : Int) / 256 % 256), .int .u8 ((p : Int) % 256)] 5)) (.slice (some ⟨N0, 0, none⟩) 4 4) [116, 107, 116, 98]) := OT0.out.up (up_alloc _ _)
  have AT1 : Hid (AppE W base (.slice a n c) (.slice a n c) L (W1.alloc (.cells #[.int .u8 ((p : Int) / 16777216), .int .u8 ((p : Int) / 65536 % 256), .int .u8 ((p : Int) / 256 % 256), .int .u8 ((p : Int) % 256)] 5))) := AT0.out.up (up_alloc _ _)
  clear OT0 AT0
  refine wp_loop_rounds 4 ?_
  rw [rounds_succ]
  go_wp2_with (at_builtin; refine wpList_append_new _ rfl _ _ rfl N0 0 4 4 [116, 107, 116, 98] rfl OT1.out (by decide) (.slice (some ⟨W1.heap.size, 0, none⟩) 4 4) (fourL p) rfl OQ0.out (by simp [fourL]) (by rw [four_len]; omega) (by rw [four_len]; decide) ?_)
  intro vb' wb ho hb
  obtain ⟨tb, tbn, tbc, rfl, _⟩ := own_shape ho
  obtain ⟨NB, hNB⟩ : ∃ NB, NB = W1.heap.size + 1 := ⟨_, rfl⟩
  rw [← hNB] at ho hb
  have E1 : Hid (FtE W base (.slice a n c) L NB (.slice tb tbn tbc) ([116, 107, 116, 98] ++ fourL p) wb) := by
    have hsz : (W1.alloc (.cells #[.int .u8 ((p : Int) / 16777216), .int .u8 ((p : Int) / 65536 % 256), .int .u8 ((p : Int) / 256 % 256), .int .u8 ((p : Int) % 256)] 5)).heap.size = NB := by rw [hNB]; simp
    refine ⟨AT1.out.up (by rw [hsz]; exact hb), ho, ?_, ?_, ?_⟩
    · have := AT1.out.gr.size
      omega
    · have := hb.size
      omega
    · intro k hk
      have := (AT1.out.ob.lt k hk).2
      omega
  have HT1 : Hid (([116, 107, 116, 98] ++ fourL p).length = 8) := rfl
  obtain ⟨T1, hT1⟩ : ∃ T1, T1 = [116, 107, 116, 98] ++ fourL p := ⟨_, rfl⟩
  have HE1 : Hid (T1 = [116, 107, 116, 98] ++ fourL p) := hT1
  rw [← hT1] at E1 HT1
  clear ho hb AT1 OT1 OQ0 hT1 hNB
  go_wp2_with fail
  have OQ2 : Hid (Octs (wb.alloc (.cells #[.int .u8 ((q : Int) / 16777216), .int .u8 ((q : Int) / 65536 % 256), .int .u8 ((q : Int) / 256 % 256), .int .u8 ((q : Int) % 256)] 5)) (.slice (some ⟨wb.heap.size, 0, none⟩) 4 4) (fourL q)) := by
    unfold Hid
    rw [← F1.out]
    exact Octs.made wb (fourL q) (four_oct q) (by rw [four_len]; decide)
  have AU2 : Hid (FtE W base (.slice a n c) L NB (.slice tb tbn tbc) T1 (wb.alloc (.cells #[.int .u8 ((q : Int) / 16777216), .int .u8 ((q : Int) / 65536 % 256), .int .u8 ((q : Int) / 256 % 256), .int .u8 ((q : Int) % 256)] 5))) := E1.out.up (up_alloc _ _)
  have HZ2 : Hid (T1.length + (fourL q).length ≤ 140737488355328) := by unfold Hid; rw [HT1.out, four_len]; omega
  rw [rounds_succ]
  go_wp2_with (at_builtin; refine wpList_append_octs_at _ rfl _ _ rfl NB (.slice tb tbn tbc) T1 rfl AU2.out.ot (.slice (some ⟨wb.heap.size, 0, none⟩) 4 4) (fourL q) rfl OQ2.out HZ2.out AU2.out.h2 ?_)
  intro v2 w2 ho hg ha
  obtain ⟨t2a, t2n, t2c, rfl, _⟩ := own_shape ho
  have E2 : Hid (FtE W base (.slice a n c) L NB (.slice t2a t2n t2c) (T1 ++ fourL q) w2) := AU2.out.app ho hg
  have HT2 : Hid ((T1 ++ fourL q).length = 12) := by unfold Hid; rw [List.length_append, HT1.out, four_len]
  obtain ⟨T2, hT2⟩ : ∃ T2, T2 = T1 ++ fourL q := ⟨_, rfl⟩
  have HE2 : Hid (T2 = T1 ++ fourL q) := hT2
  rw [← hT2] at E2 HT2
  clear ho hg ha AU2 OQ2 HZ2 E1 HT1 hT2
  go_wp2_with fail
  have OQ3 : Hid (Octs (w2.alloc (.cells #[.int .u8 ((m : Int) / 16777216), .int .u8 ((m : Int) / 65536 % 256), .int .u8 ((m : Int) / 256 % 256), .int .u8 ((m : Int) % 256)] 5)) (.slice (some ⟨w2.heap.size, 0, none⟩) 4 4) (fourL m)) := by
    unfold Hid
    rw [← F2.out]
    exact Octs.made w2 (fourL m) (four_oct m) (by rw [four_len]; decide)
  have AU3 : Hid (FtE W base (.slice a n c) L NB (.slice t2a t2n t2c) T2 (w2.alloc (.cells #[.int .u8 ((m : Int) / 16777216), .int .u8 ((m : Int) / 65536 % 256), .int .u8 ((m : Int) / 256 % 256), .int .u8 ((m : Int) % 256)] 5))) := E2.out.up (up_alloc _ _)
  have HZ3 : Hid (T2.length + (fourL m).length ≤ 140737488355328) := by unfold Hid; rw [HT2.out, four_len]; omega
  rw [rounds_succ]
  go_wp2_with (at_builtin; refine wpList_append_octs_at _ rfl _ _ rfl NB (.slice t2a t2n t2c) T2 rfl AU3.out.ot (.slice (some ⟨w2.heap.size, 0, none⟩) 4 4) (fourL m) rfl OQ3.out HZ3.out AU3.out.h2 ?_)
  intro v3 w3 ho hg ha
  obtain ⟨t3a, t3n, t3c, rfl, _⟩ := own_shape ho
  have E3 : Hid (FtE W base (.slice a n c) L NB (.slice t3a t3n t3c) (T2 ++ fourL m) w3) := AU3.out.app ho hg
  have HT3 : Hid ((T2 ++ fourL m).length = 16) := by unfold Hid; rw [List.length_append, HT2.out, four_len]
  obtain ⟨T3, hT3⟩ : ∃ T3, T3 = T2 ++ fourL m := ⟨_, rfl⟩
  have HE3 : Hid (T3 = T2 ++ fourL m) := hT3
  rw [← hT3] at E3 HT3
  clear ho hg ha AU3 OQ3 HZ3 E2 HT2 hT3
  have HTE : Hid (footO p q m = guardOf T3) := by
    unfold Hid footO
    rw [HE3.out, HE2.out, HE1.out]
    simp
  have HTO : Hid (∀ y ∈ T3, 0 ≤ y ∧ y ≤ 255) := fun y hy => by
    have := HFO.out y
    rw [HTE.out] at this
    exact this (List.mem_append.2 (.inl hy))
  have HGU := hid (guard_any T3 _ w3 (Octs.own E3.out.ot HTO.out) (by rw [HT3.out]; omega))
  go_wp2_with fail
  rw [rounds_succ]
  go_wp2_with fail
  refine HGU.out.mono ?_
  rintro e wg ⟨vg, rfl, GO2, ug⟩
  obtain ⟨gg, ggn, ggc, rfl, _⟩ := own_shape GO2
  have EG : Hid (AppE W base (.slice a n c) (.slice a n c) L wg) := E3.out.ap.up ug
  have GO3 : Hid (Octs wg (.slice gg ggn ggc) (guardOf T3)) := Octs.own GO2 (by rw [← HTE.out]; exact HFO.out)
  have HZ6 : Hid (L.length + (guardOf T3).length ≤ 140737488355328) := by have := CL.out; unfold Hid; rw [guard_len, HT3.out]; omega
  clear GO2 ug E3 HGU
  go_wp2_with (at_builtin; refine wpList_append_octs_at wg rfl _ _ rfl base (.slice a n c) L rfl EG.out.ob (.slice gg ggn ggc) (guardOf T3) rfl GO3.out HZ6.out EG.out.hb ?_)
  intro vh wh ho hg ha
  have EH := EG.out.app ho hg (ha.imp id fun h => ⟨_, h, Nat.le_refl _⟩)
  obtain ⟨th, thn, thc, rfl, _⟩ := own_shape ho
  have HO9 : Hid (AppE W base (.slice a n c) (.slice th thn thc) (L ++ footO p q m) wh) := by unfold Hid; rw [HTE.out]; exact EH
  clear ho hg ha EH EG
  go_wp2_with fail
  go_ret
  exact ⟨_, _, _, rfl, HO9.out⟩
end Go.Proofs.YthiegmhplnbdlaaGreat
