/- The program's seenBy of layer 13: the stamps of all versions that are seen. -/
import Derived.Test.YtfnddbglopoghaaQSee
namespace Go.Proofs.Ytfnddbglopoghaa
open Go.RowKit Go.Shelf
set_option linter.unusedVariables false
set_option linter.unusedSimpArgs false
set_option maxRecDepth 100000
attribute [local go_sem] Oper.semAt_some wide_fn

/-- Some slots were written. -/
def PutIn : List Nat → Act → Act → Prop
  | [], a, b => b = a
  | t :: ts, a, b => ∃ v, PutIn ts (a.put (some t) v) b
theorem wpIn_cut {F : Fence} {n : Nat} {P : Program} (xs : List Nat) (S : World → Prop) {c : Code} {a : Act} {w : World} {Q : Exit → Act → World → Prop} (h : c.wpIn F n P (fun e a' w' => e = .normal ∧ PutIn xs a a' ∧ S w') a w) (k : ∀ a' w', PutIn xs a a' → S w' → Q .normal a' w') : c.wpIn F n P Q a w :=
  wpIn_mono h (fun e a' w' hq => by obtain ⟨he, hp, hs⟩ := hq; subst he; exact k a' w' hp hs)
/-- What is seen of a key's versions. -/
def tagsG (snaps : List Int) (g : List En) : List En := g.head?.toList ++ snaps.filterMap (seesM g)
def tagsL (l : List En) (snaps : List Int) (j : Nat) : List En := ((groupsM l).take j).flatMap (tagsG snaps)
theorem tagsL_succ (l : List En) (snaps : List Int) (j : Nat) (g : List En) (hg : (groupsM l)[j]? = some g) : tagsL l snaps (j + 1) = tagsL l snaps j ++ tagsG snaps g := by
  unfold tagsL
  rw [List.take_add_one, hg, List.flatMap_append]
  simp
theorem tagsG_len (snaps : List Int) (g : List En) : (tagsG snaps g).length ≤ 1 + snaps.length := by
  unfold tagsG
  rw [List.length_append]
  have := List.length_filterMap_le (seesM g) snaps
  have : g.head?.toList.length ≤ 1 := by cases g.head? <;> simp
  omega
theorem flat_len (snaps : List Int) : ∀ gs : List (List En), (gs.flatMap (tagsG snaps)).length ≤ gs.length * (1 + snaps.length)
  | [] => by simp
  | g :: gs => by
    rw [List.flatMap_cons, List.length_append, List.length_cons, Nat.succ_mul]
    have := tagsG_len snaps g
    have := flat_len snaps gs
    omega
theorem groups_len (l : List En) : (groupsM l).length ≤ l.length := by
  have : ∀ gs : List (List En), (∀ g ∈ gs, 0 < g.length) → gs.length ≤ gs.flatten.length := by
    intro gs
    induction gs with
    | nil => intro _; simp
    | cons x xs ih =>
      intro h
      have := h x List.mem_cons_self
      have := ih (fun g hg => h g (List.mem_cons_of_mem _ hg))
      simp only [List.flatten_cons, List.length_append, List.length_cons]
      omega
  have h := this (groupsM l) (fun g hg => by
    obtain ⟨i, hi⟩ := List.getElem?_of_mem hg
    exact (group_at hi).1)
  rw [groups_join] at h
  exact h
theorem tagsL_len (l : List En) (snaps : List Int) (hs : snaps.length ≤ 16) (j : Nat) : (tagsL l snaps j).length ≤ l.length * 17 := by
  have h1 := flat_len snaps ((groupsM l).take j)
  have h2 := groups_len l
  have h3 : ((groupsM l).take j).length ≤ l.length := by rw [List.length_take]; omega
  exact Nat.le_trans h1 (Nat.mul_le_mul h3 (by omega))
/-- What lies in seenBy's loop. -/
structure SbW (w : World) (v vs : Value) (T : List En) (r : Loop) (W : World) : Prop where
  sb : W.heap[w.heap.size]? = some (.cells #[vs] 37)
  mp : MapW W (w.heap.size + 1) T
  cb : W.heap[w.heap.size + 2]? = some (.cells #[.map (some (w.heap.size + 1))] 60)
  kb : W.heap[w.heap.size + 3]? = some (.cells #[v] 22)
  dfr : W.heap[w.heap.size + 4]? = some (.deferred (some []))
  loop : W.heap[w.heap.size + 5]? = some (.loop r)
  below : Below w.heap.size w W
theorem SbW.up {w : World} {v vs : Value} {T : List En} {r : Loop} {W W' : World} (H : SbW w v vs T r W) (h : Below W.heap.size W W') : SbW w v vs T r W' :=
  ⟨blk_up H.sb h, H.mp.up h, blk_up H.cb h, blk_up H.kb h, blk_up H.dfr h, blk_up H.loop h, up_trans H.below h⟩
theorem SbW.put {w : World} {v vs : Value} {T : List En} {r : Loop} {W : World} (H : SbW w v vs T r W) (r' : Loop) : SbW w v vs T r' (W.putObj (w.heap.size + 5) (.loop r')) := by
  have g := grownBy_putObj' W (w.heap.size + 5) (.loop r')
  exact ⟨blk_grown H.sb g (by simp), H.mp.kept g (by simp), blk_grown H.cb g (by simp), blk_grown H.kb g (by simp), blk_grown H.dfr g (by simp), World.putObj_heap_same (blk_lt H.loop), H.below.grown g H.below.size (fun j hj => by simp at hj; omega)⟩
theorem SbW.setM {w : World} {v vs : Value} {T T' : List En} {r : Loop} {W W' : World} (H : SbW w v vs T r W) (hm : MapW W' (w.heap.size + 1) T') (g : W.grownBy W' (some (w.heap.size + 1))) : SbW w v vs T' r W' :=
  ⟨blk_grown H.sb g (by simp), hm, blk_grown H.cb g (by simp), blk_grown H.kb g (by simp), blk_grown H.dfr g (by simp), blk_grown H.loop g (by simp), H.below.grown g H.below.size (fun j hj => by simp at hj; omega)⟩
/-- A stamp is put: what the region's operations do. -/
theorem stampP (x : En) (hx : mayE x = true) {w : World} {v vs : Value} {T : List En} {r : Loop} (W : World) (H : SbW w v vs T r W) :
    Calls Try.prog 43 #[.agg #[.string x.key, .int .i64 x.seq, .int .i64 x.kind, .string x.val]] W fun e w1 => e = .returned (.agg #[.string x.key, .int .i64 x.seq]) ∧ w1.cell? ⟨w.heap.size + 1 + 1, 0, none⟩ = some (.map (some (w.heap.size + 1))) ∧
      (Instr.lookup 60 (.map (some (w.heap.size + 1))) (.agg #[.string x.key, .int .i64 x.seq]) false).run Try.prog w1 = .ok (.int .i64 (cntT T x : Int)) w1 ∧
      ∃ (v0 : Value) (st : Nat) (w2 w3 : World), (Instr.mapEntry 60 (.map (some (w.heap.size + 1))) (.agg #[.string x.key, .int .i64 x.seq])).run Try.prog w1 = .ok (.tuple #[v0, .int .i64 (st : Int)]) w2 ∧
      (Instr.lookup 60 (.map (some (w.heap.size + 1))) (.agg #[.string x.key, .int .i64 x.seq]) false).run Try.prog w2 = .ok (.int .i64 (cntT T x : Int)) w2 ∧
      (Instr.entryStore 60 (.map (some (w.heap.size + 1))) (.int .i64 (st : Int)) (.int .i64 ((cntT T x : Int) + 1))).run Try.prog w2 = .ok () w3 ∧ Hid (SbW w v vs (T ++ [x]) r w3) := by
  refine (stampOf_any x W).mono ?_
  rintro e w1 ⟨rfl, hw⟩
  have hb : Below W.heap.size W w1 := by rw [hw]; exact up_al (up_alloc _ _) _
  have H1 := H.up hb
  obtain ⟨v0, st, w2, w3, e1, e2, e3, h3, g3⟩ := H1.mp.inc hx
  exact ⟨rfl, blk_cell H1.cb 0 _ rfl, H1.mp.look hx, v0, st, w2, w3, e1, e2, e3, H1.setM h3 g3⟩
set_option maxHeartbeats 8000000 in
theorem seenBy_any (l : List En) (hmay : ∀ x ∈ l, mayE x = true) (snaps : List Int) (hsn : snaps.length ≤ 16) (a : Option Addr) (n c : Nat) (sa : Option Addr) (sn sc : Nat) (w : World) (hv : EntsR w (.slice a n c) l) (hi : IntsR w (.slice sa sn sc) snaps) (hl : l.length ≤ 2932031007402) :
    Calls Try.prog 29 #[.slice a n c, .slice sa sn sc] w fun e w' => ∃ b, e = .returned (.map (some b)) ∧ Hid (MapW w' b (tagsL l snaps (groupsM l).length)) ∧ Hid (Below w.heap.size w w') := by
  have HV : Hid (EntsR w (.slice a n c) l) := hv
  have HI : Hid (IntsR w (.slice sa sn sc) snaps) := hi
  obtain ⟨a1, c1, e1, hc, hm⟩ := hv.len
  simp only [Value.slice.injEq] at e1
  obtain ⟨rfl, hn, rfl⟩ := e1
  subst hn
  obtain ⟨a1, c1, e1, hc1, hm1⟩ := hi.len
  simp only [Value.slice.injEq] at e1
  obtain ⟨rfl, hn, rfl⟩ := e1
  subst hn
  have HMY := hid hmay
  obtain ⟨b, off, hba⟩ := ents_addr hv
  have HBA := hid hba
  clear hv hi hmay hba
  have hl1 := hl
  have HCU := hid (fun w => byKey_any a l.length c w)
  refine (callsIn_wide (n := 9)).1 ?_
  refine callsIn_of_wp_marks Try.func29 rfl trivial ?_ rfl
  simp only [Try.ntmps29, List.size_toArray, List.length_cons, List.length_nil, Nat.reduceAdd, Nat.reduceSub, Array.replicate_succ, Array.replicate_zero, List.push_toArray, List.append_toArray, List.nil_append, List.cons_append]
  have hmm := @run_makeMap Try.prog
  gi_wp2_with fail
  refine (callsIn_wide.2 (HCU.out _)).mono ?_
  rintro e wx ⟨rfl, rfl⟩
  gi_wp2_with fail
  obtain ⟨w3, hw3⟩ : ∃ w3 : World, w3 = (((w.alloc (.cells #[.slice sa snaps.length sc] 37)).alloc (.map #[] 0)).alloc (.cells #[.map (some (w.heap.size + 1))] 60)).alloc (.cells #[.slice a l.length c] 22) := ⟨_, rfl⟩
  have d3 : w3.heap.size = w.heap.size + 4 := by rw [hw3]; simp
  have c0 : w3.heap[w.heap.size]? = some (.cells #[.slice sa snaps.length sc] 37) := by rw [hw3]; exact blk_al (blk_al (blk_al (blk_nw _ _ rfl) _) _) _
  have c1 : MapW w3 (w.heap.size + 1) [] := by
    rw [hw3]
    have := MapW.made (w.alloc (.cells #[.slice sa snaps.length sc] 37))
    rw [show (w.alloc (.cells #[.slice sa snaps.length sc] 37)).heap.size = w.heap.size + 1 by simp] at this
    exact (this.up (up_alloc _ _)).up (up_alloc _ _)
  have c2 : w3.heap[w.heap.size + 2]? = some (.cells #[.map (some (w.heap.size + 1))] 60) := by rw [hw3]; exact blk_al (blk_nw _ _ (by simp)) _
  have c3 : w3.heap[w.heap.size + 3]? = some (.cells #[.slice a l.length c] 22) := by rw [hw3]; exact blk_nw _ _ (by simp)
  have u3 : Below w.heap.size w w3 := by rw [hw3]; exact up_al (up_al (up_al (up_alloc _ _) _) _) _
  rw [← hw3]
  clear hw3
  refine range_law rfl (enters_of Try.func38 (by kernel_rfl) rfl) ?_
  intro r r1 r2 r3 r4 r5 r6
  rw [d3]
  have J0 : SbW w (.slice a l.length c) (.slice sa snaps.length sc) [] r ((w3.alloc (.deferred (some []))).alloc (.loop r)) := by
    refine ⟨blk_al (blk_al c0 _) _, (c1.up (up_alloc _ _)).up (up_alloc _ _), blk_al (blk_al c2 _) _, blk_al (blk_al c3 _) _, blk_al (blk_nw _ _ (by omega)) _, blk_nw _ _ (by simp; omega), up_al (up_al u3 _) _⟩
  generalize (w3.alloc (.deferred (some []))).alloc (.loop r) = W1 at *
  refine (key_in 8 (w.heap.size + 5) (w.heap.size + 3) l a b off c HBA.out hc (by omega)
    (fun j W => SbW w (.slice a l.length c) (.slice sa snaps.length sc) (tagsL l snaps j) r W)
    W1 ?hY ?hK ?hA ?hD J0).mono ?post
  case hK =>
    intro i W' H
    exact ⟨blk_cell H.kb 0 _ rfl, HV.out.up H.below⟩
  case hA =>
    intro i W' o H
    exact H.up (up_alloc _ _)
  case hD =>
    intro i W' d H
    exact H.up (up_drewN _ _)
  case post =>
    rintro e W' ⟨hv, H⟩
    refine ⟨hv, ?_⟩
    refine ⟨r, H.loop, (by rw [r1]; simp), .inl ⟨r2, ?_⟩⟩
    have HH := hid (H.put { r with state := .exhausted })
    generalize W'.putObj (w.heap.size + 5) (.loop { r with state := .exhausted }) = W2 at *
    clear H J0 c0 c1 c2 c3 u3 r1 r2 r3 r4 r5 r6
    have q1 : W2.cell? ⟨w.heap.size + 1 + 1, 0, none⟩ = some (.map (some (w.heap.size + 1))) := blk_cell HH.out.cb 0 _ rfl
    gi_wp2_with fail
    refine ⟨by simp, .inl ⟨_, _, rfl, run_takeDeferred (ds := []) HH.out.dfr, ?_⟩⟩
    have g3 := grownBy_putObj' W2 (w.heap.size + 4) (.deferred none)
    refine ⟨_, results_tmp (t := 4) rfl _ _ _, ?_⟩
    exact ⟨w.heap.size + 1, rfl, HH.out.mp.kept g3 (by simp), HH.out.below.grown g3 HH.out.below.size (fun j hj => by simp at hj; omega)⟩
  case hY =>
    rintro j p g W0 hg hp H
    obtain ⟨g1, g2, g3⟩ := group_at hg
    have HPT : Hid (∀ W : World, Below w.heap.size w W → EntsR W (partG b off c p g.length) g) := fun W hW => by
      have h1 := HV.out.up hW
      rw [HBA.out (group_ne hg)] at h1
      have := ents_part h1 p g.length g1 (by rw [hp]; exact g2)
      rw [hp, g3] at this
      rw [hp]
      exact this
    unfold partG at HPT ⊢
    have HGM : Hid (∀ x ∈ g, mayE x = true) := fun x hx => HMY.out x (by
      rw [← groups_join l]
      exact List.mem_flatten.2 ⟨g, List.mem_of_getElem? hg, hx⟩)
    have HT1 : Hid (tagsL l snaps (j + 1) = tagsL l snaps j ++ tagsG snaps g) := tagsL_succ l snaps j g hg
    have HTL : Hid ((tagsL l snaps j).length ≤ 2932031007402 * 17) := by
      have := tagsL_len l snaps hsn j
      unfold Hid
      omega
    obtain ⟨x, hx⟩ : ∃ x, g[0]? = some x := ⟨g[0], List.getElem?_eq_getElem g1⟩
    have HXH : Hid (g.head? = some x) := by unfold Hid; rw [List.head?_eq_getElem?]; exact hx
    have HMX : Hid (mayE x = true) := HGM.out x (List.mem_of_getElem? hx)
    clear g2 g3 hp hg
    refine ⟨r.fn, _, r.assign, r.body, run_yield H.loop (by rw [r4]; rfl), roundIn_of_wpIn trivial ?_⟩
    rw [r3, r4, r5, r6]
    gi_wp2_with fail
    refine ⟨_, run_beginRound H.loop r1, ?_⟩
    have HB := hid (H.put { r with state := .busy })
    generalize W0.putObj (w.heap.size + 5) (.loop { r with state := .busy }) = Wb at *
    have HR : Hid (r.state = .ready ∧ r.pending = none) := ⟨r1, r2⟩
    have HEND : Hid (∀ W6, SbW w (.slice a l.length c) (.slice sa snaps.length sc) (tagsL l snaps (j + 1)) { r with state := .busy } W6 → SbW w (.slice a l.length c) (.slice sa snaps.length sc) (tagsL l snaps (j + 1)) r (W6.putObj (w.heap.size + 5) (.loop r))) := fun W6 h => h.put r
    clear H J0 c0 c1 c2 c3 u3 r1 r2 r3 r4 r5 r6
    generalize tagsL l snaps j = T at *
    have HXP := hid (HPT.out Wb HB.out.below)
    obtain ⟨b0, off0, cap0, x0, e, hx0, z0, z1, z2, z3⟩ := HXP.out.at 0 g1
    simp only [Value.slice.injEq, Option.some.injEq, Addr.mk.injEq] at e
    obtain ⟨⟨rfl, hoff, _⟩, _, rfl⟩ := e
    subst hoff
    obtain rfl : x0 = x := by rw [hx] at hx0; exact (Option.some.inj hx0).symm
    clear hx0 hx
    have hg0 : (0 : Int) < (g.length : Int) := by omega
    have HST := hid (stampP x0 HMX.out Wb.drew (HB.out.up (up_drw Wb)))
    have q1 : Wb.cell? ⟨w.heap.size + 1 + 1, 0, none⟩ = some (.map (some (w.heap.size + 1))) := blk_cell HB.out.cb 0 _ rfl
    have hwc : IntKind.i64.wrap ((cntT T x0 : Int) + 1) = (cntT T x0 : Int) + 1 := by
      have h1 := cntT_le T x0
      have h2 := HTL.out
      rw [IntKind.wrap_i64]
      omega
    simp only [Nat.zero_mul, Nat.add_zero] at z0 z1 z2 z3
    gi_wp2_with fail
    refine wpIn_cut [15, 16, 17, 18, 19, 20, 21, 22, 23] (fun W => Hid (SbW w (.slice a l.length c) (.slice sa snaps.length sc) (T ++ [x0]) { r with state := .busy } W)) ?reg ?cont
    case reg =>
      refine wpIn_region_any (by kernel_rfl) ?_
      change wpAnyIn _ _ _ _ _ _ _ _ _ (World.drew _)
      refine wpAnyIn_round (F := Fence.wide) _ (noDefer_spec (by kernel_rfl)) rfl _ _ _ _ ?_
      refine wpAnyIn_take (i := 1) (v := ?v13) rfl rfl (by kernel_rfl) (by kernel_rfl) (by kernel_rfl) (fun _ _ _ h => by cases h.1) ⟨Or.inl ⟨by rfl, ?y13⟩, fun _ => rfl⟩ ?_
      case y13 => (intro w; go_simp; try with_reducible rfl)
      refine wpAnyIn_take (i := 2) (v := ?v14) rfl rfl (by kernel_rfl) (by kernel_rfl) (by kernel_rfl) (fun _ _ _ h => by cases h.1) ⟨Or.inl ⟨by rfl, ?y14⟩, fun _ => rfl⟩ ?_
      case y14 => (intro w; go_simp; try with_reducible rfl)
      refine wpAnyIn_ready (rs := [0, 3]) (by kernel_rfl) (by simp) ?_
      refine AllReadyIn.cons rfl (fun K hK => ?_) (AllReadyIn.cons rfl (fun K hK => ?_) AllReadyIn.nil)
      · skip
        go_simp
        refine hK _ _ ?_
        clear hK K
        refine wpAnyIn_ready (rs := [3]) (by kernel_rfl) (by simp) ?_
        refine AllReadyIn.cons rfl (fun K hK => ?_) AllReadyIn.nil
        go_simp
        refine hK _ _ ?_
        clear hK K
        refine wpAnyIn_ready (rs := [4]) (by kernel_rfl) (by simp) ?_
        refine AllReadyIn.cons rfl (fun K hK => ?_) AllReadyIn.nil
        go_simp
        refine (callsIn_wide.2 HST.out).mono ?_
        rintro e w1 ⟨rfl, hc1, hl1, v0, st, w2, w3, e1, hl2, e3, HB3⟩
        refine hK _ _ ?_
        clear hK K
        refine wpAnyIn_ready (rs := [5, 7]) (by kernel_rfl) (by simp) ?_
        refine AllReadyIn.cons rfl (fun K hK => ?_) (AllReadyIn.cons rfl (fun K hK => ?_) AllReadyIn.nil)
        · skip
          go_simp
          refine hK _ _ ?_
          clear hK K
          refine wpAnyIn_take (i := 6) (v := ?v15) rfl rfl (by kernel_rfl) (by kernel_rfl) (by kernel_rfl) (fun _ _ _ h => by cases h.1) ⟨Or.inl ⟨by rfl, ?y15⟩, fun _ => rfl⟩ ?_
          case y15 => (intro w; go_simp; try with_reducible rfl)
          refine wpAnyIn_ready (rs := [7]) (by kernel_rfl) (by simp) ?_
          refine AllReadyIn.cons rfl (fun K hK => ?_) AllReadyIn.nil
          go_simp
          refine hK _ _ ?_
          clear hK K
          refine wpAnyIn_take (i := 8) (v := ?v16) rfl rfl (by kernel_rfl) (by kernel_rfl) (by kernel_rfl) (fun _ _ _ h => by cases h.1) ⟨Or.inl ⟨by rfl, ?y16⟩, fun _ => rfl⟩ ?_
          case y16 => (intro w; go_simp; try with_reducible rfl)
          refine wpAnyIn_ready (rs := [9]) (by kernel_rfl) (by simp) ?_
          refine AllReadyIn.cons rfl (fun K hK => ?_) AllReadyIn.nil
          go_simp
          refine hK _ _ ?_
          clear hK K
          refine wpAnyIn_done (by kernel_rfl) ?_ _
          refine ⟨rfl, ⟨.map (some (w.heap.size + 1)), .slice (some ⟨b, off + p * 4, none⟩) g.length (c - p), .pointer (some ⟨b, off + p * 4, none⟩), .agg #[.string x0.key, .int .i64 x0.seq, .int .i64 x0.kind, .string x0.val], .agg #[.string x0.key, .int .i64 x0.seq], .int .i64 (cntT T x0 : Int), .int .i64 ((cntT T x0 : Int) + 1), .tuple #[v0, .int .i64 (st : Int)], .int .i64 (st : Int), ?_⟩, HB3⟩
          simp only [PutIn, Act.put, List.setIfInBounds_toArray, List.set_cons_zero, List.set_cons_succ]
        · skip
          go_simp
          refine hK _ _ ?_
          clear hK K
          refine wpAnyIn_take (i := 8) (v := ?v17) rfl rfl (by kernel_rfl) (by kernel_rfl) (by kernel_rfl) (fun _ _ _ h => by cases h.1) ⟨Or.inl ⟨by rfl, ?y17⟩, fun _ => rfl⟩ ?_
          case y17 => (intro w; go_simp; try with_reducible rfl)
          refine wpAnyIn_ready (rs := [5]) (by kernel_rfl) (by simp) ?_
          refine AllReadyIn.cons rfl (fun K hK => ?_) AllReadyIn.nil
          go_simp
          refine hK _ _ ?_
          clear hK K
          refine wpAnyIn_take (i := 6) (v := ?v18) rfl rfl (by kernel_rfl) (by kernel_rfl) (by kernel_rfl) (fun _ _ _ h => by cases h.1) ⟨Or.inl ⟨by rfl, ?y18⟩, fun _ => rfl⟩ ?_
          case y18 => (intro w; go_simp; try with_reducible rfl)
          refine wpAnyIn_ready (rs := [9]) (by kernel_rfl) (by simp) ?_
          refine AllReadyIn.cons rfl (fun K hK => ?_) AllReadyIn.nil
          go_simp
          refine hK _ _ ?_
          clear hK K
          refine wpAnyIn_done (by kernel_rfl) ?_ _
          refine ⟨rfl, ⟨.map (some (w.heap.size + 1)), .slice (some ⟨b, off + p * 4, none⟩) g.length (c - p), .pointer (some ⟨b, off + p * 4, none⟩), .agg #[.string x0.key, .int .i64 x0.seq, .int .i64 x0.kind, .string x0.val], .agg #[.string x0.key, .int .i64 x0.seq], .int .i64 (cntT T x0 : Int), .int .i64 ((cntT T x0 : Int) + 1), .tuple #[v0, .int .i64 (st : Int)], .int .i64 (st : Int), ?_⟩, HB3⟩
          simp only [PutIn, Act.put, List.setIfInBounds_toArray, List.set_cons_zero, List.set_cons_succ]
      · skip
        go_simp
        refine hK _ _ ?_
        clear hK K
        refine wpAnyIn_ready (rs := [0, 4]) (by kernel_rfl) (by simp) ?_
        refine AllReadyIn.cons rfl (fun K hK => ?_) (AllReadyIn.cons rfl (fun K hK => ?_) AllReadyIn.nil)
        · skip
          go_simp
          refine hK _ _ ?_
          clear hK K
          refine wpAnyIn_ready (rs := [4]) (by kernel_rfl) (by simp) ?_
          refine AllReadyIn.cons rfl (fun K hK => ?_) AllReadyIn.nil
          go_simp
          refine (callsIn_wide.2 HST.out).mono ?_
          rintro e w1 ⟨rfl, hc1, hl1, v0, st, w2, w3, e1, hl2, e3, HB3⟩
          refine hK _ _ ?_
          clear hK K
          refine wpAnyIn_ready (rs := [5, 7]) (by kernel_rfl) (by simp) ?_
          refine AllReadyIn.cons rfl (fun K hK => ?_) (AllReadyIn.cons rfl (fun K hK => ?_) AllReadyIn.nil)
          · skip
            go_simp
            refine hK _ _ ?_
            clear hK K
            refine wpAnyIn_take (i := 6) (v := ?v19) rfl rfl (by kernel_rfl) (by kernel_rfl) (by kernel_rfl) (fun _ _ _ h => by cases h.1) ⟨Or.inl ⟨by rfl, ?y19⟩, fun _ => rfl⟩ ?_
            case y19 => (intro w; go_simp; try with_reducible rfl)
            refine wpAnyIn_ready (rs := [7]) (by kernel_rfl) (by simp) ?_
            refine AllReadyIn.cons rfl (fun K hK => ?_) AllReadyIn.nil
            go_simp
            refine hK _ _ ?_
            clear hK K
            refine wpAnyIn_take (i := 8) (v := ?v20) rfl rfl (by kernel_rfl) (by kernel_rfl) (by kernel_rfl) (fun _ _ _ h => by cases h.1) ⟨Or.inl ⟨by rfl, ?y20⟩, fun _ => rfl⟩ ?_
            case y20 => (intro w; go_simp; try with_reducible rfl)
            refine wpAnyIn_ready (rs := [9]) (by kernel_rfl) (by simp) ?_
            refine AllReadyIn.cons rfl (fun K hK => ?_) AllReadyIn.nil
            go_simp
            refine hK _ _ ?_
            clear hK K
            refine wpAnyIn_done (by kernel_rfl) ?_ _
            refine ⟨rfl, ⟨.map (some (w.heap.size + 1)), .slice (some ⟨b, off + p * 4, none⟩) g.length (c - p), .pointer (some ⟨b, off + p * 4, none⟩), .agg #[.string x0.key, .int .i64 x0.seq, .int .i64 x0.kind, .string x0.val], .agg #[.string x0.key, .int .i64 x0.seq], .int .i64 (cntT T x0 : Int), .int .i64 ((cntT T x0 : Int) + 1), .tuple #[v0, .int .i64 (st : Int)], .int .i64 (st : Int), ?_⟩, HB3⟩
            simp only [PutIn, Act.put, List.setIfInBounds_toArray, List.set_cons_zero, List.set_cons_succ]
          · skip
            go_simp
            refine hK _ _ ?_
            clear hK K
            refine wpAnyIn_take (i := 8) (v := ?v21) rfl rfl (by kernel_rfl) (by kernel_rfl) (by kernel_rfl) (fun _ _ _ h => by cases h.1) ⟨Or.inl ⟨by rfl, ?y21⟩, fun _ => rfl⟩ ?_
            case y21 => (intro w; go_simp; try with_reducible rfl)
            refine wpAnyIn_ready (rs := [5]) (by kernel_rfl) (by simp) ?_
            refine AllReadyIn.cons rfl (fun K hK => ?_) AllReadyIn.nil
            go_simp
            refine hK _ _ ?_
            clear hK K
            refine wpAnyIn_take (i := 6) (v := ?v22) rfl rfl (by kernel_rfl) (by kernel_rfl) (by kernel_rfl) (fun _ _ _ h => by cases h.1) ⟨Or.inl ⟨by rfl, ?y22⟩, fun _ => rfl⟩ ?_
            case y22 => (intro w; go_simp; try with_reducible rfl)
            refine wpAnyIn_ready (rs := [9]) (by kernel_rfl) (by simp) ?_
            refine AllReadyIn.cons rfl (fun K hK => ?_) AllReadyIn.nil
            go_simp
            refine hK _ _ ?_
            clear hK K
            refine wpAnyIn_done (by kernel_rfl) ?_ _
            refine ⟨rfl, ⟨.map (some (w.heap.size + 1)), .slice (some ⟨b, off + p * 4, none⟩) g.length (c - p), .pointer (some ⟨b, off + p * 4, none⟩), .agg #[.string x0.key, .int .i64 x0.seq, .int .i64 x0.kind, .string x0.val], .agg #[.string x0.key, .int .i64 x0.seq], .int .i64 (cntT T x0 : Int), .int .i64 ((cntT T x0 : Int) + 1), .tuple #[v0, .int .i64 (st : Int)], .int .i64 (st : Int), ?_⟩, HB3⟩
            simp only [PutIn, Act.put, List.setIfInBounds_toArray, List.set_cons_zero, List.set_cons_succ]
        · skip
          go_simp
          refine (callsIn_wide.2 HST.out).mono ?_
          rintro e w1 ⟨rfl, hc1, hl1, v0, st, w2, w3, e1, hl2, e3, HB3⟩
          refine hK _ _ ?_
          clear hK K
          refine wpAnyIn_ready (rs := [0]) (by kernel_rfl) (by simp) ?_
          refine AllReadyIn.cons rfl (fun K hK => ?_) AllReadyIn.nil
          go_simp
          refine hK _ _ ?_
          clear hK K
          refine wpAnyIn_ready (rs := [5, 7]) (by kernel_rfl) (by simp) ?_
          refine AllReadyIn.cons rfl (fun K hK => ?_) (AllReadyIn.cons rfl (fun K hK => ?_) AllReadyIn.nil)
          · skip
            go_simp
            refine hK _ _ ?_
            clear hK K
            refine wpAnyIn_take (i := 6) (v := ?v23) rfl rfl (by kernel_rfl) (by kernel_rfl) (by kernel_rfl) (fun _ _ _ h => by cases h.1) ⟨Or.inl ⟨by rfl, ?y23⟩, fun _ => rfl⟩ ?_
            case y23 => (intro w; go_simp; try with_reducible rfl)
            refine wpAnyIn_ready (rs := [7]) (by kernel_rfl) (by simp) ?_
            refine AllReadyIn.cons rfl (fun K hK => ?_) AllReadyIn.nil
            go_simp
            refine hK _ _ ?_
            clear hK K
            refine wpAnyIn_take (i := 8) (v := ?v24) rfl rfl (by kernel_rfl) (by kernel_rfl) (by kernel_rfl) (fun _ _ _ h => by cases h.1) ⟨Or.inl ⟨by rfl, ?y24⟩, fun _ => rfl⟩ ?_
            case y24 => (intro w; go_simp; try with_reducible rfl)
            refine wpAnyIn_ready (rs := [9]) (by kernel_rfl) (by simp) ?_
            refine AllReadyIn.cons rfl (fun K hK => ?_) AllReadyIn.nil
            go_simp
            refine hK _ _ ?_
            clear hK K
            refine wpAnyIn_done (by kernel_rfl) ?_ _
            refine ⟨rfl, ⟨.map (some (w.heap.size + 1)), .slice (some ⟨b, off + p * 4, none⟩) g.length (c - p), .pointer (some ⟨b, off + p * 4, none⟩), .agg #[.string x0.key, .int .i64 x0.seq, .int .i64 x0.kind, .string x0.val], .agg #[.string x0.key, .int .i64 x0.seq], .int .i64 (cntT T x0 : Int), .int .i64 ((cntT T x0 : Int) + 1), .tuple #[v0, .int .i64 (st : Int)], .int .i64 (st : Int), ?_⟩, HB3⟩
            simp only [PutIn, Act.put, List.setIfInBounds_toArray, List.set_cons_zero, List.set_cons_succ]
          · skip
            go_simp
            refine hK _ _ ?_
            clear hK K
            refine wpAnyIn_take (i := 8) (v := ?v25) rfl rfl (by kernel_rfl) (by kernel_rfl) (by kernel_rfl) (fun _ _ _ h => by cases h.1) ⟨Or.inl ⟨by rfl, ?y25⟩, fun _ => rfl⟩ ?_
            case y25 => (intro w; go_simp; try with_reducible rfl)
            refine wpAnyIn_ready (rs := [5]) (by kernel_rfl) (by simp) ?_
            refine AllReadyIn.cons rfl (fun K hK => ?_) AllReadyIn.nil
            go_simp
            refine hK _ _ ?_
            clear hK K
            refine wpAnyIn_take (i := 6) (v := ?v26) rfl rfl (by kernel_rfl) (by kernel_rfl) (by kernel_rfl) (fun _ _ _ h => by cases h.1) ⟨Or.inl ⟨by rfl, ?y26⟩, fun _ => rfl⟩ ?_
            case y26 => (intro w; go_simp; try with_reducible rfl)
            refine wpAnyIn_ready (rs := [9]) (by kernel_rfl) (by simp) ?_
            refine AllReadyIn.cons rfl (fun K hK => ?_) AllReadyIn.nil
            go_simp
            refine hK _ _ ?_
            clear hK K
            refine wpAnyIn_done (by kernel_rfl) ?_ _
            refine ⟨rfl, ⟨.map (some (w.heap.size + 1)), .slice (some ⟨b, off + p * 4, none⟩) g.length (c - p), .pointer (some ⟨b, off + p * 4, none⟩), .agg #[.string x0.key, .int .i64 x0.seq, .int .i64 x0.kind, .string x0.val], .agg #[.string x0.key, .int .i64 x0.seq], .int .i64 (cntT T x0 : Int), .int .i64 ((cntT T x0 : Int) + 1), .tuple #[v0, .int .i64 (st : Int)], .int .i64 (st : Int), ?_⟩, HB3⟩
            simp only [PutIn, Act.put, List.setIfInBounds_toArray, List.set_cons_zero, List.set_cons_succ]
    case cont =>
      rintro a' W5 ⟨x15, x16, x17, x18, x19, x20, x21, x22, x23, rfl⟩ HB5
      clear HST z0 z1 z2 z3 q1 hwc HXP HB
      simp only [Act.put, List.setIfInBounds_toArray, List.set_cons_zero, List.set_cons_succ]
      have q0 := blk_cell HB5.out.sb 0 _ rfl
      gi_wp2_with fail
      gi_loopw [26] (fun i wr => ∃ k : Nat, k ≤ snaps.length ∧ i = .int .i64 k ∧ Hid (SbW w (.slice a l.length c) (.slice sa snaps.length sc) ((T ++ [x0]) ++ (snaps.take k).filterMap (seesM g)) { r with state := .busy } wr)) (fun i _ => snaps.length - (intOf i).toNat)
      case atStart => exact ⟨0, Nat.zero_le _, rfl, by unfold Hid; simpa using HB5.out⟩
      case round =>
        obtain ⟨k, hk, rfl, HB⟩ := hrel
        clear HB5 q0
        by_cases hlt : k < snaps.length
        · have hlt' : (k : Int) < (snaps.length : Int) := by omega
          obtain ⟨b4, off4, cap4, s, e, hs, y0⟩ := (HI.out.up HB.out.below).at k hlt
          simp only [Value.slice.injEq] at e
          obtain ⟨rfl, _, rfl⟩ := e
          have HS1 : Hid ((snaps.take (k + 1)).filterMap (seesM g) = (snaps.take k).filterMap (seesM g) ++ (seesM g s).toList) := by
            unfold Hid
            rw [List.take_add_one, hs, List.filterMap_append]
            congr 1
          have HTL2 : Hid (((T ++ [x0]) ++ (snaps.take k).filterMap (seesM g)).length ≤ 2932031007402 * 17 + 1 + 16) := by
            have h1 := HTL.out
            have h2 := List.length_filterMap_le (seesM g) (snaps.take k)
            rw [List.length_take] at h2
            unfold Hid
            rw [List.length_append, List.length_append, List.length_singleton]
            omega
          clear hs
          have HAT := hid (at_any g (some ⟨b, off + p * 4, none⟩) g.length (c - p) s wr (HPT.out _ HB.out.below))
          gi_wp2_with fail
          refine (CallsIn.inRound _ (callsIn_wide.2 HAT.out)).mono ?_
          rintro e W6 ⟨y, ok, rfl, HA, u6⟩
          have HB7 : Hid (SbW w (.slice a l.length c) (.slice (some ⟨b4, off4, none⟩) snaps.length sc) ((T ++ [x0]) ++ (snaps.take k).filterMap (seesM g)) { r with state := .busy } (W6.alloc (.cells #[.string y.key, .int .i64 y.seq, .int .i64 y.kind, .string y.val] 47))) := (HB.out.up u6.out).up (up_alloc _ _)
          clear HAT u6 y0 HB
          rcases HA.out with ⟨hs, rfl⟩ | ⟨hs, rfl⟩
          · have HN : Hid (SbW w (.slice a l.length c) (.slice (some ⟨b4, off4, none⟩) snaps.length sc) ((T ++ [x0]) ++ (snaps.take (k + 1)).filterMap (seesM g)) { r with state := .busy } (W6.alloc (.cells #[.string y.key, .int .i64 y.seq, .int .i64 y.kind, .string y.val] 47))) := by
              unfold Hid
              rw [HS1.out, hs]
              simpa using HB7.out
            clear HA hs HS1 HB7
            gi_wp2_with fail
            exact ⟨⟨k + 1, by omega, by go_num, HN⟩, by simp [intOf]; omega⟩
          · have HMYY : Hid (mayE y = true) := HGM.out y (List.mem_of_find?_eq_some hs)
            have HN : Hid (((T ++ [x0]) ++ (snaps.take k).filterMap (seesM g)) ++ [y] = (T ++ [x0]) ++ (snaps.take (k + 1)).filterMap (seesM g)) := by
              unfold Hid
              rw [HS1.out, hs]
              simp
            clear HA hs HS1
            generalize (T ++ [x0]) ++ (snaps.take k).filterMap (seesM g) = TT at *
            have HST := hid (stampP y HMYY.out (W6.alloc (.cells #[.string y.key, .int .i64 y.seq, .int .i64 y.kind, .string y.val] 47)).drew (HB7.out.up (up_drw _)))
            have q1 : (W6.alloc (.cells #[.string y.key, .int .i64 y.seq, .int .i64 y.kind, .string y.val] 47)).cell? ⟨w.heap.size + 1 + 1, 0, none⟩ = some (.map (some (w.heap.size + 1))) := blk_cell HB7.out.cb 0 _ rfl
            have hwc : IntKind.i64.wrap ((cntT TT y : Int) + 1) = (cntT TT y : Int) + 1 := by
              have h1 := cntT_le TT y
              have h2 := HTL2.out
              rw [IntKind.wrap_i64]
              omega
            gi_wp2_with fail
            refine wpIn_cut [37, 38, 39, 40, 41, 42, 43] (fun W => Hid (SbW w (.slice a l.length c) (.slice (some ⟨b4, off4, none⟩) snaps.length sc) (TT ++ [y]) { r with state := .busy } W)) ?reg2 ?cont2
            case reg2 =>
              refine wpIn_region_any (by kernel_rfl) ?_
              change wpAnyIn _ _ _ _ _ _ _ _ _ (World.drew _)
              refine wpAnyIn_round (F := Fence.wide) _ (noDefer_spec (by kernel_rfl)) rfl _ _ _ _ ?_
              refine wpAnyIn_ready (rs := [0, 1]) (by kernel_rfl) (by simp) ?_
              refine AllReadyIn.cons rfl (fun K hK => ?_) (AllReadyIn.cons rfl (fun K hK => ?_) AllReadyIn.nil)
              · skip
                go_simp
                refine hK _ _ ?_
                clear hK K
                refine wpAnyIn_ready (rs := [1]) (by kernel_rfl) (by simp) ?_
                refine AllReadyIn.cons rfl (fun K hK => ?_) AllReadyIn.nil
                go_simp
                refine hK _ _ ?_
                clear hK K
                refine wpAnyIn_ready (rs := [2]) (by kernel_rfl) (by simp) ?_
                refine AllReadyIn.cons rfl (fun K hK => ?_) AllReadyIn.nil
                go_simp
                refine (callsIn_wide.2 HST.out).mono ?_
                rintro e w1 ⟨rfl, hc1, hl1, v0, st, w2, w3, e1, hl2, e3, HB3⟩
                refine hK _ _ ?_
                clear hK K
                refine wpAnyIn_ready (rs := [3, 5]) (by kernel_rfl) (by simp) ?_
                refine AllReadyIn.cons rfl (fun K hK => ?_) (AllReadyIn.cons rfl (fun K hK => ?_) AllReadyIn.nil)
                · skip
                  go_simp
                  refine hK _ _ ?_
                  clear hK K
                  refine wpAnyIn_take (i := 4) (v := ?v1) rfl rfl (by kernel_rfl) (by kernel_rfl) (by kernel_rfl) (fun _ _ _ h => by cases h.1) ⟨Or.inl ⟨by rfl, ?y1⟩, fun _ => rfl⟩ ?_
                  case y1 => (intro w; go_simp; try with_reducible rfl)
                  refine wpAnyIn_ready (rs := [5]) (by kernel_rfl) (by simp) ?_
                  refine AllReadyIn.cons rfl (fun K hK => ?_) AllReadyIn.nil
                  go_simp
                  refine hK _ _ ?_
                  clear hK K
                  refine wpAnyIn_take (i := 6) (v := ?v2) rfl rfl (by kernel_rfl) (by kernel_rfl) (by kernel_rfl) (fun _ _ _ h => by cases h.1) ⟨Or.inl ⟨by rfl, ?y2⟩, fun _ => rfl⟩ ?_
                  case y2 => (intro w; go_simp; try with_reducible rfl)
                  refine wpAnyIn_ready (rs := [7]) (by kernel_rfl) (by simp) ?_
                  refine AllReadyIn.cons rfl (fun K hK => ?_) AllReadyIn.nil
                  go_simp
                  refine hK _ _ ?_
                  clear hK K
                  refine wpAnyIn_done (by kernel_rfl) ?_ _
                  refine ⟨rfl, ⟨.map (some (w.heap.size + 1)), .agg #[.string y.key, .int .i64 y.seq, .int .i64 y.kind, .string y.val], .agg #[.string y.key, .int .i64 y.seq], .int .i64 (cntT TT y : Int), .int .i64 ((cntT TT y : Int) + 1), .tuple #[v0, .int .i64 (st : Int)], .int .i64 (st : Int), ?_⟩, HB3⟩
                  simp only [PutIn, Act.put, List.setIfInBounds_toArray, List.set_cons_zero, List.set_cons_succ]
                · skip
                  go_simp
                  refine hK _ _ ?_
                  clear hK K
                  refine wpAnyIn_take (i := 6) (v := ?v3) rfl rfl (by kernel_rfl) (by kernel_rfl) (by kernel_rfl) (fun _ _ _ h => by cases h.1) ⟨Or.inl ⟨by rfl, ?y3⟩, fun _ => rfl⟩ ?_
                  case y3 => (intro w; go_simp; try with_reducible rfl)
                  refine wpAnyIn_ready (rs := [3]) (by kernel_rfl) (by simp) ?_
                  refine AllReadyIn.cons rfl (fun K hK => ?_) AllReadyIn.nil
                  go_simp
                  refine hK _ _ ?_
                  clear hK K
                  refine wpAnyIn_take (i := 4) (v := ?v4) rfl rfl (by kernel_rfl) (by kernel_rfl) (by kernel_rfl) (fun _ _ _ h => by cases h.1) ⟨Or.inl ⟨by rfl, ?y4⟩, fun _ => rfl⟩ ?_
                  case y4 => (intro w; go_simp; try with_reducible rfl)
                  refine wpAnyIn_ready (rs := [7]) (by kernel_rfl) (by simp) ?_
                  refine AllReadyIn.cons rfl (fun K hK => ?_) AllReadyIn.nil
                  go_simp
                  refine hK _ _ ?_
                  clear hK K
                  refine wpAnyIn_done (by kernel_rfl) ?_ _
                  refine ⟨rfl, ⟨.map (some (w.heap.size + 1)), .agg #[.string y.key, .int .i64 y.seq, .int .i64 y.kind, .string y.val], .agg #[.string y.key, .int .i64 y.seq], .int .i64 (cntT TT y : Int), .int .i64 ((cntT TT y : Int) + 1), .tuple #[v0, .int .i64 (st : Int)], .int .i64 (st : Int), ?_⟩, HB3⟩
                  simp only [PutIn, Act.put, List.setIfInBounds_toArray, List.set_cons_zero, List.set_cons_succ]
              · skip
                go_simp
                refine hK _ _ ?_
                clear hK K
                refine wpAnyIn_ready (rs := [0, 2]) (by kernel_rfl) (by simp) ?_
                refine AllReadyIn.cons rfl (fun K hK => ?_) (AllReadyIn.cons rfl (fun K hK => ?_) AllReadyIn.nil)
                · skip
                  go_simp
                  refine hK _ _ ?_
                  clear hK K
                  refine wpAnyIn_ready (rs := [2]) (by kernel_rfl) (by simp) ?_
                  refine AllReadyIn.cons rfl (fun K hK => ?_) AllReadyIn.nil
                  go_simp
                  refine (callsIn_wide.2 HST.out).mono ?_
                  rintro e w1 ⟨rfl, hc1, hl1, v0, st, w2, w3, e1, hl2, e3, HB3⟩
                  refine hK _ _ ?_
                  clear hK K
                  refine wpAnyIn_ready (rs := [3, 5]) (by kernel_rfl) (by simp) ?_
                  refine AllReadyIn.cons rfl (fun K hK => ?_) (AllReadyIn.cons rfl (fun K hK => ?_) AllReadyIn.nil)
                  · skip
                    go_simp
                    refine hK _ _ ?_
                    clear hK K
                    refine wpAnyIn_take (i := 4) (v := ?v5) rfl rfl (by kernel_rfl) (by kernel_rfl) (by kernel_rfl) (fun _ _ _ h => by cases h.1) ⟨Or.inl ⟨by rfl, ?y5⟩, fun _ => rfl⟩ ?_
                    case y5 => (intro w; go_simp; try with_reducible rfl)
                    refine wpAnyIn_ready (rs := [5]) (by kernel_rfl) (by simp) ?_
                    refine AllReadyIn.cons rfl (fun K hK => ?_) AllReadyIn.nil
                    go_simp
                    refine hK _ _ ?_
                    clear hK K
                    refine wpAnyIn_take (i := 6) (v := ?v6) rfl rfl (by kernel_rfl) (by kernel_rfl) (by kernel_rfl) (fun _ _ _ h => by cases h.1) ⟨Or.inl ⟨by rfl, ?y6⟩, fun _ => rfl⟩ ?_
                    case y6 => (intro w; go_simp; try with_reducible rfl)
                    refine wpAnyIn_ready (rs := [7]) (by kernel_rfl) (by simp) ?_
                    refine AllReadyIn.cons rfl (fun K hK => ?_) AllReadyIn.nil
                    go_simp
                    refine hK _ _ ?_
                    clear hK K
                    refine wpAnyIn_done (by kernel_rfl) ?_ _
                    refine ⟨rfl, ⟨.map (some (w.heap.size + 1)), .agg #[.string y.key, .int .i64 y.seq, .int .i64 y.kind, .string y.val], .agg #[.string y.key, .int .i64 y.seq], .int .i64 (cntT TT y : Int), .int .i64 ((cntT TT y : Int) + 1), .tuple #[v0, .int .i64 (st : Int)], .int .i64 (st : Int), ?_⟩, HB3⟩
                    simp only [PutIn, Act.put, List.setIfInBounds_toArray, List.set_cons_zero, List.set_cons_succ]
                  · skip
                    go_simp
                    refine hK _ _ ?_
                    clear hK K
                    refine wpAnyIn_take (i := 6) (v := ?v7) rfl rfl (by kernel_rfl) (by kernel_rfl) (by kernel_rfl) (fun _ _ _ h => by cases h.1) ⟨Or.inl ⟨by rfl, ?y7⟩, fun _ => rfl⟩ ?_
                    case y7 => (intro w; go_simp; try with_reducible rfl)
                    refine wpAnyIn_ready (rs := [3]) (by kernel_rfl) (by simp) ?_
                    refine AllReadyIn.cons rfl (fun K hK => ?_) AllReadyIn.nil
                    go_simp
                    refine hK _ _ ?_
                    clear hK K
                    refine wpAnyIn_take (i := 4) (v := ?v8) rfl rfl (by kernel_rfl) (by kernel_rfl) (by kernel_rfl) (fun _ _ _ h => by cases h.1) ⟨Or.inl ⟨by rfl, ?y8⟩, fun _ => rfl⟩ ?_
                    case y8 => (intro w; go_simp; try with_reducible rfl)
                    refine wpAnyIn_ready (rs := [7]) (by kernel_rfl) (by simp) ?_
                    refine AllReadyIn.cons rfl (fun K hK => ?_) AllReadyIn.nil
                    go_simp
                    refine hK _ _ ?_
                    clear hK K
                    refine wpAnyIn_done (by kernel_rfl) ?_ _
                    refine ⟨rfl, ⟨.map (some (w.heap.size + 1)), .agg #[.string y.key, .int .i64 y.seq, .int .i64 y.kind, .string y.val], .agg #[.string y.key, .int .i64 y.seq], .int .i64 (cntT TT y : Int), .int .i64 ((cntT TT y : Int) + 1), .tuple #[v0, .int .i64 (st : Int)], .int .i64 (st : Int), ?_⟩, HB3⟩
                    simp only [PutIn, Act.put, List.setIfInBounds_toArray, List.set_cons_zero, List.set_cons_succ]
                · skip
                  go_simp
                  refine (callsIn_wide.2 HST.out).mono ?_
                  rintro e w1 ⟨rfl, hc1, hl1, v0, st, w2, w3, e1, hl2, e3, HB3⟩
                  refine hK _ _ ?_
                  clear hK K
                  refine wpAnyIn_ready (rs := [0]) (by kernel_rfl) (by simp) ?_
                  refine AllReadyIn.cons rfl (fun K hK => ?_) AllReadyIn.nil
                  go_simp
                  refine hK _ _ ?_
                  clear hK K
                  refine wpAnyIn_ready (rs := [3, 5]) (by kernel_rfl) (by simp) ?_
                  refine AllReadyIn.cons rfl (fun K hK => ?_) (AllReadyIn.cons rfl (fun K hK => ?_) AllReadyIn.nil)
                  · skip
                    go_simp
                    refine hK _ _ ?_
                    clear hK K
                    refine wpAnyIn_take (i := 4) (v := ?v9) rfl rfl (by kernel_rfl) (by kernel_rfl) (by kernel_rfl) (fun _ _ _ h => by cases h.1) ⟨Or.inl ⟨by rfl, ?y9⟩, fun _ => rfl⟩ ?_
                    case y9 => (intro w; go_simp; try with_reducible rfl)
                    refine wpAnyIn_ready (rs := [5]) (by kernel_rfl) (by simp) ?_
                    refine AllReadyIn.cons rfl (fun K hK => ?_) AllReadyIn.nil
                    go_simp
                    refine hK _ _ ?_
                    clear hK K
                    refine wpAnyIn_take (i := 6) (v := ?v10) rfl rfl (by kernel_rfl) (by kernel_rfl) (by kernel_rfl) (fun _ _ _ h => by cases h.1) ⟨Or.inl ⟨by rfl, ?y10⟩, fun _ => rfl⟩ ?_
                    case y10 => (intro w; go_simp; try with_reducible rfl)
                    refine wpAnyIn_ready (rs := [7]) (by kernel_rfl) (by simp) ?_
                    refine AllReadyIn.cons rfl (fun K hK => ?_) AllReadyIn.nil
                    go_simp
                    refine hK _ _ ?_
                    clear hK K
                    refine wpAnyIn_done (by kernel_rfl) ?_ _
                    refine ⟨rfl, ⟨.map (some (w.heap.size + 1)), .agg #[.string y.key, .int .i64 y.seq, .int .i64 y.kind, .string y.val], .agg #[.string y.key, .int .i64 y.seq], .int .i64 (cntT TT y : Int), .int .i64 ((cntT TT y : Int) + 1), .tuple #[v0, .int .i64 (st : Int)], .int .i64 (st : Int), ?_⟩, HB3⟩
                    simp only [PutIn, Act.put, List.setIfInBounds_toArray, List.set_cons_zero, List.set_cons_succ]
                  · skip
                    go_simp
                    refine hK _ _ ?_
                    clear hK K
                    refine wpAnyIn_take (i := 6) (v := ?v11) rfl rfl (by kernel_rfl) (by kernel_rfl) (by kernel_rfl) (fun _ _ _ h => by cases h.1) ⟨Or.inl ⟨by rfl, ?y11⟩, fun _ => rfl⟩ ?_
                    case y11 => (intro w; go_simp; try with_reducible rfl)
                    refine wpAnyIn_ready (rs := [3]) (by kernel_rfl) (by simp) ?_
                    refine AllReadyIn.cons rfl (fun K hK => ?_) AllReadyIn.nil
                    go_simp
                    refine hK _ _ ?_
                    clear hK K
                    refine wpAnyIn_take (i := 4) (v := ?v12) rfl rfl (by kernel_rfl) (by kernel_rfl) (by kernel_rfl) (fun _ _ _ h => by cases h.1) ⟨Or.inl ⟨by rfl, ?y12⟩, fun _ => rfl⟩ ?_
                    case y12 => (intro w; go_simp; try with_reducible rfl)
                    refine wpAnyIn_ready (rs := [7]) (by kernel_rfl) (by simp) ?_
                    refine AllReadyIn.cons rfl (fun K hK => ?_) AllReadyIn.nil
                    go_simp
                    refine hK _ _ ?_
                    clear hK K
                    refine wpAnyIn_done (by kernel_rfl) ?_ _
                    refine ⟨rfl, ⟨.map (some (w.heap.size + 1)), .agg #[.string y.key, .int .i64 y.seq, .int .i64 y.kind, .string y.val], .agg #[.string y.key, .int .i64 y.seq], .int .i64 (cntT TT y : Int), .int .i64 ((cntT TT y : Int) + 1), .tuple #[v0, .int .i64 (st : Int)], .int .i64 (st : Int), ?_⟩, HB3⟩
                    simp only [PutIn, Act.put, List.setIfInBounds_toArray, List.set_cons_zero, List.set_cons_succ]
            case cont2 =>
              rintro a' W9 ⟨x37, x38, x39, x40, x41, x42, x43, rfl⟩ HB9
              clear HST q1 hwc HB7
              simp only [Act.put, List.setIfInBounds_toArray, List.set_cons_zero, List.set_cons_succ]
              rw [HN.out] at HB9
              gi_wp2_with fail
              exact ⟨⟨k + 1, by omega, by go_num, HB9⟩, by simp [intOf]; omega⟩
        · have hlt' : ¬ (k : Int) < (snaps.length : Int) := by omega
          obtain rfl : k = snaps.length := by omega
          have HN : Hid ((T ++ [x0]) ++ (snaps.take snaps.length).filterMap (seesM g) = tagsL l snaps (j + 1)) := by
            unfold Hid
            rw [HT1.out, List.take_length]
            unfold tagsG
            rw [HXH.out]
            simp
          rw [HN.out] at HB
          gi_wp2_with fail
          have hend := run_endRound (P := Try.prog) none HB.out.loop
          rw [loop_back HR.out] at hend
          exact ⟨_, _, hend, rfl, HEND.out _ HB.out⟩
end Go.Proofs.Ytfnddbglopoghaa
