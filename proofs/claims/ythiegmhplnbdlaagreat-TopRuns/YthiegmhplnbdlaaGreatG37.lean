/- Texts of layers 1 to 13, in this order. -/
import Derived.Test.YthiegmhplnbdlaaGreatG34
import Derived.Test.YthiegmhplnbdlaaGreatG36

namespace Go.Proofs.YthiegmhplnbdlaaGreat
open Go.RowKit Go.Shelf
set_option linter.unusedVariables false
set_option linter.unusedSimpArgs false
set_option maxRecDepth 100000
attribute [local go_sem] Oper.semAt_some wide_fn
def paRow (p : Pa) : List Value := [.string p.key, .string p.val]
def PairsR (w : World) (v : Value) (l : List Pa) : Prop := Rws 2 w v (l.map paRow)
theorem Tryz.infoP : (Tryz.prog.info? 69).map (fun i => (i.zero, i.size, i.bytes)) = some (some (.agg #[.string ⟨#[]⟩, .string ⟨#[]⟩]), 2, 32) := by kernel_rfl
theorem paRow_one (x : Pa) : ∀ u ∈ paRow x, u.oneCell' = true := by
  intro u hu
  unfold paRow at hu
  simp only [List.mem_cons, List.mem_nil_iff, or_false] at hu
  rcases hu with rfl | rfl <;> rfl
theorem ents_part {w : World} {b off c n : Nat} {l : List En} (h : EntsR w (.slice (some ⟨b, off, none⟩) n c) l) (p k : Nat) (hk : 0 < k) (hpk : p + k ≤ l.length) : EntsR w (partG b off c p k) ((l.drop p).take k) := by
  obtain ⟨hx, a, cap, e, h1, h2, h3, h4⟩ := h
  simp only [Value.slice.injEq, List.length_map] at e h1
  obtain ⟨rfl, rfl, rfl⟩ := e
  have hl : ((l.drop p).take k).length = k := by rw [List.length_take, List.length_drop]; omega
  refine ⟨fun cs hcs => hx cs ?_, some ⟨b, off + p * 4, none⟩, c - p, ?_, ?_, by omega, (fun h => by cases h), fun _ => ⟨b, off + p * 4, rfl, ?_⟩⟩
  · obtain ⟨x, hx, rfl⟩ := List.mem_map.1 hcs
    exact List.mem_map.2 ⟨x, List.mem_of_mem_drop (List.mem_of_mem_take hx), rfl⟩
  · unfold partG
    rw [List.length_map, hl]
  · rw [List.length_map, hl]
    omega
  · intro j cs hj i u hi
    have hne : l.map enRow ≠ [] := by
      intro q
      have := congrArg List.length q
      simp at this
      rw [this] at hpk
      simp at hpk
      omega
    obtain ⟨b2, off2, e2, hc⟩ := h4 hne
    simp only [Option.some.injEq, Addr.mk.injEq] at e2
    obtain ⟨rfl, rfl, _⟩ := e2
    have hjk : j < k := by
      have := (List.getElem?_eq_some_iff.1 hj).1
      rw [List.length_map, hl] at this
      exact this
    have hj2 : (l.map enRow)[p + j]? = some cs := by
      rw [List.getElem?_map, List.getElem?_take_of_lt hjk, List.getElem?_drop] at hj
      rw [List.getElem?_map]
      exact hj
    have := hc (p + j) cs hj2 i u hi
    rw [show off + p * 4 + j * 4 + i = off + (p + j) * 4 + i by omega]
    exact this
theorem ents_addr {w : World} {a : Option Addr} {n c : Nat} {l : List En} (h : EntsR w (.slice a n c) l) : ∃ b off, l ≠ [] → a = some ⟨b, off, none⟩ := by
  by_cases hne : l = []
  · exact ⟨0, 0, fun q => absurd hne q⟩
  · obtain ⟨hx, a1, cap, e, h1, h2, h3, h4⟩ := h
    simp only [Value.slice.injEq] at e
    obtain ⟨rfl, _, _⟩ := e
    obtain ⟨b, off, e2, _⟩ := h4 (by simpa using hne)
    exact ⟨b, off, fun _ => e2⟩
theorem group_ne {l : List En} {j : Nat} {g : List En} (hg : (groupsM l)[j]? = some g) : l ≠ [] := by
  intro q
  rw [q, groups_nil] at hg
  cases hg
theorem ret_two {v : Value} {x y : Int} (h : x = y) : Ending.returned (.tuple #[v, .int .i64 x]) = .returned (.tuple #[v, .int .i64 y]) := by rw [h]
theorem results_two {fn : Func} {i j : Nat} (h : fn.results = #[.tmp i, .tmp j]) (tmps : Array Value) (w : World) : (results fn tmps).run Tryz.prog w = .ok (.tuple #[tmps.getD i undef, tmps.getD j undef]) w := by
  simp only [results, h]
  simp [go_sem]
theorem group_at {l : List En} {j : Nat} {g : List En} (hg : (groupsM l)[j]? = some g) : 0 < g.length ∧ ((groupsM l).take j).flatten.length + g.length ≤ l.length ∧ (l.drop ((groupsM l).take j).flatten.length).take g.length = g := by
  have hne : ∀ (n : Nat) (l : List En), l.length ≤ n → ∀ g ∈ groupsM l, 0 < g.length := by
    intro n
    induction n with
    | zero =>
      intro l hl g hg
      obtain rfl : l = [] := List.length_eq_zero_iff.1 (by omega)
      rw [groups_nil] at hg
      cases hg
    | succ n ih =>
      intro l hl g hg
      cases l with
      | nil => rw [groups_nil] at hg; cases hg
      | cons x r =>
        unfold groupsM at hg
        rcases List.mem_cons.1 hg with rfl | hg
        · simp
        · exact ih _ (by have := (List.dropWhile_sublist (sameK x) (l := r)).length_le; simp only [List.length_cons] at hl; omega) g hg
  have h1 := hne l.length l (Nat.le_refl _) g (List.mem_of_getElem? hg)
  have hs : groupsM l = (groupsM l).take j ++ g :: (groupsM l).drop (j + 1) := by
    have hj := List.getElem?_eq_some_iff.1 hg
    rw [← hj.2, ← List.drop_eq_getElem_cons hj.1, List.take_append_drop]
  have hf : l = ((groupsM l).take j).flatten ++ (g ++ ((groupsM l).drop (j + 1)).flatten) := by
    conv => lhs; rw [← groups_join l, hs]
    rw [List.flatten_append, List.flatten_cons]
  generalize ((groupsM l).take j).flatten = A at *
  generalize ((groupsM l).drop (j + 1)).flatten = B at *
  refine ⟨h1, ?_, ?_⟩
  · rw [hf]; simp only [List.length_append]; omega
  · rw [hf]; simp
structure SeW (w : World) (B : Nat) (s : Int) (v vp : Value) (P : List Pa) (r : Loop) (W : World) : Prop where
  sq : W.heap[w.heap.size]? = some (.cells #[.int .i64 s] 3)
  pb : W.heap[B]? = some (.cells #[vp] 62)
  kb : W.heap[B + 1]? = some (.cells #[v] 42)
  dfr : W.heap[B + 2]? = some (.deferred (some []))
  loop : W.heap[B + 3]? = some (.loop r)
  op : OwnR W (B + 4) 69 2 vp (P.map paRow)
  below : Below w.heap.size w W
  hN : w.heap.size < B
theorem SeW.hb {w : World} {B : Nat} {s : Int} {v vp : Value} {P : List Pa} {r : Loop} {W : World} (H : SeW w B s v vp P r W) : B + 4 ≤ W.heap.size := by
  have := blk_lt H.loop
  omega
theorem SeW.up {w : World} {B : Nat} {s : Int} {v vp : Value} {P : List Pa} {r : Loop} {W W' : World} (H : SeW w B s v vp P r W) (h : Below W.heap.size W W') : SeW w B s v vp P r W' :=
  ⟨blk_up H.sq h, blk_up H.pb h, blk_up H.kb h, blk_up H.dfr h, blk_up H.loop h, H.op.up h, up_trans H.below h, H.hN⟩
theorem SeW.put {w : World} {B : Nat} {s : Int} {v vp : Value} {P : List Pa} {r : Loop} {W : World} (H : SeW w B s v vp P r W) (r' : Loop) : SeW w B s v vp P r' (W.putObj (B + 3) (.loop r')) := by
  have g := grownBy_putObj' W (B + 3) (.loop r')
  have hN := H.hN
  exact ⟨blk_grown H.sq g (by simp; omega), blk_grown H.pb g (by simp), blk_grown H.kb g (by simp), blk_grown H.dfr g (by simp), World.putObj_heap_same (blk_lt H.loop), H.op.apart g (fun k hk => by simp at hk; omega), H.below.grown g H.below.size (fun j hj => by simp at hj; omega), H.hN⟩
theorem SeW.setP {w : World} {B : Nat} {s : Int} {v vp vp' : Value} {P P' : List Pa} {r : Loop} {W W' : World} (H : SeW w B s v vp P r W) (ho : OwnR W' (B + 4) 69 2 vp' (P'.map paRow)) (hg : W.grownBy W' vp.ownBlock) :
    W'.heap[B]? = some (.cells #[vp] 62) ∧ SeW w B s v vp' P' r (W'.setCell ⟨B, 0, none⟩ vp') := by
  have hk : ∀ k, k < B + 4 → some k ≠ vp.ownBlock := fun k hk e => by have := (H.op.2.lt _ e.symm).1; omega
  have hN := H.hN
  have g2 := grown_set W' ⟨B, 0, none⟩ vp'
  have key : ∀ k, k < B + 4 → ∀ o, W.heap[k]? = some o → W'.heap[k]? = some o := fun k h o ho => blk_grown ho hg (hk k h)
  have u1 : Below w.heap.size w W' := H.below.grown hg H.below.size (fun k hk => by have := (H.op.2.lt k hk).1; omega)
  refine ⟨key B (by omega) _ H.pb, blk_grown (key _ (by omega) _ H.sq) g2 (by simp; omega), blk_set (key B (by omega) _ H.pb) 0 _, blk_grown (key (B + 1) (by omega) _ H.kb) g2 (by simp), blk_grown (key (B + 2) (by omega) _ H.dfr) g2 (by simp), blk_grown (key (B + 3) (by omega) _ H.loop) g2 (by simp), ho.apart g2 (fun k hk => by simp at hk; omega), u1.grown g2 u1.size (fun j hj => by simp at hj; omega), H.hN⟩
theorem seenL_take (l : List En) (s : Int) (j : Nat) (g : List En) (hg : (groupsM l)[j]? = some g) : ((groupsM l).take (j + 1)).filterMap (seeP s) = ((groupsM l).take j).filterMap (seeP s) ++ (seeP s g).toList := by
  rw [List.take_add_one, hg, List.filterMap_append]
  congr 1
set_option maxHeartbeats 4000000 in
theorem seen_good (l : List En) (s : Int) (a : Option Addr) (n c : Nat) (w : World) (hv : EntsR w (.slice a n c) l) (hl : l.length ≤ 2932031007402) :
    Calls Tryz.prog 17 #[.slice a n c, .int .i64 s] w fun e w' => ∃ a' n' c', e = .returned (.tuple #[.slice a' n' c', .int .i64 (chkP l)]) ∧ Hid (PairsR w' (.slice a' n' c') (seenM l s)) ∧ Hid (Below w.heap.size w w') := by
  have HV : Hid (EntsR w (.slice a n c) l) := hv
  obtain ⟨a1, c1, e1, hc, hm⟩ := hv.len
  simp only [Value.slice.injEq] at e1
  obtain ⟨rfl, hn, rfl⟩ := e1
  subst hn
  clear hv
  obtain ⟨w1, hw1⟩ : ∃ w1, w1 = w.alloc (.cells #[.int .i64 s] 3) := ⟨_, rfl⟩
  have HW1 : Hid (w.alloc (.cells #[.int .i64 s] 3) = w1) := hw1.symm
  have U1 : Hid (Below w.heap.size w w1) := by rw [hw1]; exact up_alloc _ _
  have B1 : Hid (w1.heap[w.heap.size]? = some (.cells #[.int .i64 s] 3)) := by rw [hw1]; exact blk_new _ _
  have HCK := hid (mcheck_any l (.slice a l.length c) w1 (HV.out.up U1.out))
  clear hw1
  refine (callsIn_wide (n := 9)).1 ?_
  refine callsIn_of_wp_marks Tryz.func17 rfl trivial ?_ rfl
  simp only [Tryz.ntmps17, List.size_toArray, List.length_cons, List.length_nil, Nat.reduceAdd, Nat.reduceSub, Array.replicate_succ, Array.replicate_zero, List.push_toArray, List.append_toArray, List.nil_append, List.cons_append]
  gi_wp2_with fail
  rw [HW1.out]
  refine (callsIn_wide.2 HCK.out).mono ?_
  rintro e w2 ⟨rfl, u2⟩
  have HN0 : Hid (∀ x, x = chkP l → (x != 0) = decide (chkP l ≠ 0)) := fun x hx => by rw [hx]; by_cases q : chkP l = 0 <;> simp [q]
  have U2 : Hid (Below w.heap.size w w2) := up_trans U1.out u2.out
  have B2 : Hid (w2.heap[w.heap.size]? = some (.cells #[.int .i64 s] 3)) := blk_up B1.out u2.out
  clear HCK u2 U1 B1
  by_cases h0 : chkP l = 0
  · have HO : Hid (ordL l = 0) := (chkP_iff l).1 h0
    have HSM : Hid (seenM l s = seenL l s) := by unfold Hid seenM; rw [if_pos HO.out]
    have HC0 : Hid (0 = chkP l) := h0.symm
    rw [h0]
    have HMY : Hid (∀ x ∈ l, mayE x = true) := ((ord_iff l).1 HO.out).1
    obtain ⟨b, off, hba⟩ := ents_addr HV.out
    have HBA := hid hba
    have HCU := hid (fun w => byKey_any a l.length c w)
    clear h0 hba
    gi_wp2_with fail
    refine (callsIn_wide.2 (HCU.out _)).mono ?_
    rintro e wx ⟨rfl, rfl⟩
    gi_wp2_with fail
    obtain ⟨w3, hw3⟩ : ∃ w3 : World, w3 = (w2.alloc (.cells #[.slice none 0 0] 62)).alloc (.cells #[.slice a l.length c] 42) := ⟨_, rfl⟩
    have d3 : w3.heap.size = w2.heap.size + 2 := by rw [hw3]; simp
    have c0 : w3.heap[w.heap.size]? = some (.cells #[.int .i64 s] 3) := by rw [hw3]; exact blk_al (blk_al B2.out _) _
    have c1 : w3.heap[w2.heap.size]? = some (.cells #[.slice none 0 0] 62) := by rw [hw3]; exact blk_al (blk_nw _ _ rfl) _
    have c2 : w3.heap[w2.heap.size + 1]? = some (.cells #[.slice a l.length c] 42) := by rw [hw3]; exact blk_nw _ _ (by simp)
    have u3 : Below w.heap.size w w3 := by rw [hw3]; exact up_al (up_al U2.out _) _
    rw [← hw3]
    clear hw3
    refine range_law rfl (enters_of Tryz.func76 (by kernel_rfl) rfl) ?_
    intro r r1 r2 r3 r4 r5 r6
    rw [d3]
    have J0 : SeW w w2.heap.size s (.slice a l.length c) (.slice none 0 0) [] r ((w3.alloc (.deferred (some []))).alloc (.loop r)) := by
      refine ⟨blk_al (blk_al c0 _) _, blk_al (blk_al c1 _) _, blk_al (blk_al c2 _) _, blk_al (blk_nw _ _ (by omega)) _, blk_nw _ _ (by simp; omega), OwnR.nil _ _ _ _, up_al (up_al u3 _) _, blk_lt B2.out⟩
    generalize (w3.alloc (.deferred (some []))).alloc (.loop r) = W1 at *
    refine (key_in 8 (w2.heap.size + 3) (w2.heap.size + 1) l a b off c HBA.out hc (by omega)
      (fun j W => ∃ pa pn pc, SeW w w2.heap.size s (.slice a l.length c) (.slice pa pn pc) (((groupsM l).take j).filterMap (seeP s)) r W)
      W1 ?hY ?hK ?hA ?hD ⟨none, 0, 0, J0⟩).mono ?post
    case hK =>
      rintro i W' ⟨_, _, _, H⟩
      exact ⟨blk_cell H.kb 0 _ rfl, HV.out.up H.below⟩
    case hA =>
      rintro i W' o ⟨pa, pn, pc, H⟩
      exact ⟨pa, pn, pc, H.up (up_alloc _ _)⟩
    case hD =>
      rintro i W' d ⟨pa, pn, pc, H⟩
      exact ⟨pa, pn, pc, H.up (up_drewN _ _)⟩
    case post =>
      rintro e W' ⟨hv, pa, pn, pc, H⟩
      refine ⟨hv, ?_⟩
      refine ⟨r, H.loop, (by rw [r1]; simp), .inl ⟨r2, ?_⟩⟩
      have H2 := H.put { r with state := .exhausted }
      rw [List.take_length] at H2
      have HH := hid H2
      generalize W'.putObj (w2.heap.size + 3) (.loop { r with state := .exhausted }) = W2 at *
      clear H H2 J0 c0 c1 c2 u3 r1 r2 r3 r4 r5 r6
      have q1 := blk_cell HH.out.pb 0 _ rfl
      gi_wp2_with fail
      refine ⟨by simp, .inl ⟨_, _, rfl, run_takeDeferred (ds := []) HH.out.dfr, ?_⟩⟩
      have g3 := grownBy_putObj' W2 (w2.heap.size + 2) (.deferred none)
      have hN := HH.out.hN
      refine ⟨_, results_two (i := 4) (j := 5) rfl _ _, ?_⟩
      exact ⟨pa, pn, pc, ret_two HC0.out, by unfold Hid; rw [HSM.out]; exact Rws.own (HH.out.op.apart g3 (fun k hk => by simp at hk; omega)), HH.out.below.grown g3 HH.out.below.size (fun j hj => by simp at hj; omega)⟩
    case hY =>
      rintro j p g W0 hg hp ⟨pa, pn, pc, H⟩
      obtain ⟨g1, g2, g3⟩ := group_at hg
      have HPT : Hid (∀ W : World, Below w.heap.size w W → EntsR W (partG b off c p g.length) g) := fun W hW => by
        have h1 := HV.out.up hW
        rw [HBA.out (group_ne hg)] at h1
        have := ents_part h1 p g.length g1 (by rw [hp]; exact g2)
        rw [hp, g3] at this
        rw [hp]
        exact this
      unfold partG at HPT ⊢
      have HPS : Hid (((groupsM l).take (j + 1)).filterMap (seeP s) = ((groupsM l).take j).filterMap (seeP s) ++ (seeP s g).toList) := seenL_take l s j g hg
      have HLP : Hid ((((groupsM l).take j).filterMap (seeP s)).length ≤ 2932031007402) := by
        have q1 := List.length_filterMap_le (seeP s) ((groupsM l).take j)
        have q2 : ((groupsM l).take j).length ≤ ((groupsM l).take j).flatten.length := by
          have : ∀ gs : List (List En), (∀ g ∈ gs, 0 < g.length) → gs.length ≤ gs.flatten.length := by
            intro gs
            induction gs with
            | nil => intro _; simp
            | cons x xs ih =>
              intro h
              have := h x List.mem_cons_self
              have := ih (fun g hg => h g (List.mem_cons_of_mem _ hg))
              simp only [List.flatten_cons, List.length_append, List.length_cons]
              omega
          refine this _ (fun g hg => ?_)
          obtain ⟨i, hi⟩ := List.getElem?_of_mem (List.mem_of_mem_take hg)
          exact (group_at hi).1
        unfold Hid
        omega
      have HGM : Hid (∀ x ∈ g, mayE x = true) := fun x hx => HMY.out x (by
        rw [← groups_join l]
        exact List.mem_flatten.2 ⟨g, List.mem_of_getElem? hg, hx⟩)
      clear g1 g2 g3 hp
      refine ⟨r.fn, _, r.assign, r.body, run_yield H.loop (by rw [r4]; rfl), roundIn_of_wpIn trivial ?_⟩
      rw [r3, r4, r5, r6]
      gi_wp2_with fail
      refine ⟨_, run_beginRound H.loop r1, ?_⟩
      have H2 := H.put { r with state := .busy }
      generalize W0.putObj (w2.heap.size + 3) (.loop { r with state := .busy }) = Wb at *
      have HB := hid H2
      have HR : Hid (r.state = .ready ∧ r.pending = none) := ⟨r1, r2⟩
      clear H H2 J0 c0 c1 c2 u3 r1 r2 r3 r4 r5 r6 hg
      generalize ((groupsM l).take j).filterMap (seeP s) = P at *
      have q1 := blk_cell HB.out.sq 0 _ rfl
      have HAT := hid (at_any g (some ⟨b, off + p * 4, none⟩) g.length (c - p) s Wb (HPT.out _ HB.out.below))
      gi_wp2_with fail
      refine (CallsIn.inRound _ (callsIn_wide.2 HAT.out)).mono ?_
      rintro e W4 ⟨y, ok, rfl, HA, u4⟩
      have HB4 := hid (HB.out.up u4.out)
      have HB5 : Hid (SeW w w2.heap.size s (.slice a l.length c) (.slice pa pn pc) P { r with state := .busy } (W4.alloc (.cells #[.string y.key, .int .i64 y.seq, .int .i64 y.kind, .string y.val] 50))) := HB4.out.up (up_alloc _ _)
      have qpb := blk_cell HB5.out.pb 0 _ rfl
      clear HAT HB u4 q1 HB4
      have HEND : Hid (∀ vp' P' W6, SeW w w2.heap.size s (.slice a l.length c) vp' P' { r with state := .busy } W6 → ((groupsM l).take (j + 1)).filterMap (seeP s) = P' → SeW w w2.heap.size s (.slice a l.length c) vp' (((groupsM l).take (j + 1)).filterMap (seeP s)) r (W6.putObj (w2.heap.size + 3) (.loop r))) := by
        intro vp' P' W6 h e
        rw [e]
        exact h.put r
      rcases HA.out with ⟨hs, rfl⟩ | ⟨hs, rfl⟩
      · have HP0 : Hid (((groupsM l).take (j + 1)).filterMap (seeP s) = P) := by
          unfold Hid
          rw [HPS.out]
          unfold seeP
          rw [hs]
          simp
        clear HA hs HPS
        gi_wp2_with fail
        have hend := run_endRound (P := Tryz.prog) none HB5.out.loop
        rw [loop_back HR.out] at hend
        exact ⟨_, _, hend, rfl, _, _, _, HEND.out _ _ _ HB5.out HP0.out⟩
      · have hym : y ∈ g := List.mem_of_find?_eq_some hs
        have hmy := HGM.out y hym
        by_cases hk2 : y.kind = 2
        · have hk2' : (y.kind != 2) = false := by simp [hk2]
          have hk2'' : (y.kind = 2) = True := by simp [hk2]
          have HP0 : Hid (((groupsM l).take (j + 1)).filterMap (seeP s) = P) := by
            unfold Hid
            rw [HPS.out]
            unfold seeP
            rw [hs]
            simp [paOf, hk2]
          clear HA hs HPS hym hmy hk2
          gi_wp2_with fail
          have hend := run_endRound (P := Tryz.prog) none HB5.out.loop
          rw [loop_back HR.out] at hend
          exact ⟨_, _, hend, rfl, _, _, _, HEND.out _ _ _ HB5.out HP0.out⟩
        · have hk2' : (y.kind != 2) = true := by simp [hk2]
          have hk1 : y.kind = 1 := by
            unfold mayE at hmy
            simp only [decide_eq_true_eq] at hmy
            omega
          have HP1 : Hid (((groupsM l).take (j + 1)).filterMap (seeP s) = P ++ [⟨y.key, y.val⟩]) := by
            unfold Hid
            rw [HPS.out]
            unfold seeP
            rw [hs]
            simp [paOf, hk1]
          have hz1 : ((P.map paRow).length + 1) * 32 ≤ 140737488355328 := by
            have := HLP.out
            rw [List.length_map]
            omega
          have hz2 : (P.map paRow).length + 1 ≤ maxLen := by
            have := HLP.out
            rw [List.length_map]
            unfold maxLen
            omega
          have HZ := hid (And.intro hz1 hz2)
          have HNN : Hid (W4.heap.size + 1 = (W4.alloc (.cells #[.string y.key, .int .i64 y.seq, .int .i64 y.kind, .string y.val] 50)).heap.size) := by unfold Hid; simp
          have HP1o : Hid (∀ u ∈ ([.string y.key, .string y.val] : List Value), u.oneCell' = true) := paRow_one ⟨y.key, y.val⟩
          clear HA hs HPS hym hmy hk1 hz1 hz2
          gi_wp2_with (gi_at_builtin; refine wpListIn_append_rowQ (W4.alloc (.cells #[.string y.key, .int .i64 y.seq, .int .i64 y.kind, .string y.val] 50)) rfl _ _ 62 69 _ 2 32 rfl Tryz.underlying62 Tryz.infoP rfl (by decide) (w2.heap.size + 4) (.slice pa pn pc) (P.map paRow) rfl HB5.out.op [.string y.key, .string y.val] _ (W4.heap.size + 1) HNN.out rfl rfl rfl HP1o.out HZ.out.1 HZ.out.2 HB5.out.hb ?_)
          intro v5 W6 ho hgr
          obtain ⟨a5, n5, c5, rfl⟩ := rows_shape ho
          have ho2 : OwnR W6 (w2.heap.size + 4) 69 2 (.slice a5 n5 c5) ((P ++ [(⟨y.key, y.val⟩ : Pa)]).map paRow) := by
            rw [List.map_append]
            exact ho
          obtain ⟨k1, H6⟩ := HB5.out.setP ho2 hgr
          have p1 := blk_cell k1 0 _ rfl
          have p2 := blk_frozen k1 0
          have HB6 := hid H6
          clear ho hgr k1 H6 ho2 qpb
          gi_wp2_with fail
          have hend := run_endRound (P := Tryz.prog) none HB6.out.loop
          rw [loop_back HR.out] at hend
          exact ⟨_, _, hend, rfl, _, _, _, HEND.out _ _ _ HB6.out HP1.out⟩
  · have HSM : Hid (seenM l s = []) := by unfold Hid seenM; rw [if_neg (fun q => h0 ((chkP_iff l).2 q))]
    have hb : (chkP l != 0) = true := by simp [h0]
    have hb2 : (chkP l = 0) = False := by simp [h0]
    clear h0
    gi_wp2_with fail
    refine ⟨_, results_two (i := 4) (j := 5) rfl _ _, ?_⟩
    exact ⟨none, 0, 0, rfl, by unfold Hid; rw [HSM.out]; exact Rws.nil _ _, U2.out⟩
end Go.Proofs.YthiegmhplnbdlaaGreat

namespace Go.Proofs.YthiegmhplnbdlaaGreat
open Go.RowKit Go.Shelf
set_option linter.unusedVariables false
set_option linter.unusedSimpArgs false
set_option maxRecDepth 100000
attribute [local go_sem] Oper.semAt_some wide_fn
def PutIn : List Nat → Act → Act → Prop
  | [], a, b => b = a
  | t :: ts, a, b => ∃ v, PutIn ts (a.put (some t) v) b
theorem wpIn_cut {F : Fence} {n : Nat} {P : Program} (xs : List Nat) (S : World → Prop) {c : Code} {a : Act} {w : World} {Q : Exit → Act → World → Prop} (h : c.wpIn F n P (fun e a' w' => e = .normal ∧ PutIn xs a a' ∧ S w') a w) (k : ∀ a' w', PutIn xs a a' → S w' → Q .normal a' w') : c.wpIn F n P Q a w :=
  wpIn_mono h (fun e a' w' hq => by obtain ⟨he, hp, hs⟩ := hq; subst he; exact k a' w' hp hs)
theorem groups_len (l : List En) : (groupsM l).length ≤ l.length := by
  have : ∀ gs : List (List En), (∀ g ∈ gs, 0 < g.length) → gs.length ≤ gs.flatten.length := by
    intro gs
    induction gs with
    | nil => intro _; simp
    | cons x xs ih =>
      intro h
      have := h x List.mem_cons_self
      have := ih (fun g hg => h g (List.mem_cons_of_mem _ hg))
      simp only [List.flatten_cons, List.length_append, List.length_cons]
      omega
  have h := this (groupsM l) (fun g hg => by
    obtain ⟨i, hi⟩ := List.getElem?_of_mem hg
    exact (group_at hi).1)
  rw [groups_join] at h
  exact h
structure SbW (w : World) (v vs : Value) (T : List En) (r : Loop) (W : World) : Prop where
  sb : W.heap[w.heap.size]? = some (.cells #[vs] 37)
  mp : MapW W (w.heap.size + 1) T
  cb : W.heap[w.heap.size + 2]? = some (.cells #[.map (some (w.heap.size + 1))] 160)
  kb : W.heap[w.heap.size + 3]? = some (.cells #[v] 42)
  dfr : W.heap[w.heap.size + 4]? = some (.deferred (some []))
  loop : W.heap[w.heap.size + 5]? = some (.loop r)
  below : Below w.heap.size w W
theorem SbW.up {w : World} {v vs : Value} {T : List En} {r : Loop} {W W' : World} (H : SbW w v vs T r W) (h : Below W.heap.size W W') : SbW w v vs T r W' :=
  ⟨blk_up H.sb h, H.mp.up h, blk_up H.cb h, blk_up H.kb h, blk_up H.dfr h, blk_up H.loop h, up_trans H.below h⟩
theorem SbW.put {w : World} {v vs : Value} {T : List En} {r : Loop} {W : World} (H : SbW w v vs T r W) (r' : Loop) : SbW w v vs T r' (W.putObj (w.heap.size + 5) (.loop r')) := by
  have g := grownBy_putObj' W (w.heap.size + 5) (.loop r')
  exact ⟨blk_grown H.sb g (by simp), H.mp.kept g (by simp), blk_grown H.cb g (by simp), blk_grown H.kb g (by simp), blk_grown H.dfr g (by simp), World.putObj_heap_same (blk_lt H.loop), H.below.grown g H.below.size (fun j hj => by simp at hj; omega)⟩
end Go.Proofs.YthiegmhplnbdlaaGreat
