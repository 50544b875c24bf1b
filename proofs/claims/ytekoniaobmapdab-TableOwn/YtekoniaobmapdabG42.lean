/- The texts URead2, URdF, in this order. -/
import Derived.Test.YtekoniaobmapdabG41
import Derived.Test.YtekoniaobmapdabG39

/- The walk of the program's read of layer 10. -/
namespace Go.Proofs.Ytekoniaobmapdab
open Go.RowKit Go.Shelf SumPlain
set_option linter.unusedVariables false
set_option linter.unusedSimpArgs false
set_option maxRecDepth 100000
attribute [local go_sem] Oper.semAt_some wide_fn2

/-- What lies there where a block is refused. -/
structure RdD (w : World) (M : Nat) (r : Loop) (W : World) : Prop where
  res : W.heap[w.heap.size]? = some (.cells #[.slice none 0 0] 22)
  ok : W.heap[w.heap.size + 1]? = some (.cells #[.bool false] 4)
  dfr : W.heap[M + 4]? = some (.deferred (some []))
  loop : W.heap[M + 5]? = some (.loop r)
  below : Below w.heap.size w W
  hN : w.heap.size + 2 ≤ M
theorem RdD.put {w : World} {M : Nat} {r : Loop} {W : World} (H : RdD w M r W) (r' : Loop) : RdD w M r' (W.putObj (M + 5) (.loop r')) := by
  have g := grownBy_putObj' W (M + 5) (.loop r')
  have h1 := H.hN
  exact ⟨blk_grown H.res g (by simp; omega), blk_grown H.ok g (by simp; omega), blk_grown H.dfr g (by simp), World.putObj_heap_same (blk_lt H.loop), H.below.grown g H.below.size (fun j hj => by simp at hj; omega), H.hN⟩
theorem RdW.same {w w1 : World} {M : Nat} {vb vi vl : Value} {acc : List En} {r : Loop} {W : World} (H : RdW w w1 M vb vi vl acc r W) : RdD w M r ((W.setCell ⟨w.heap.size, 0, none⟩ (.slice none 0 0)).setCell ⟨w.heap.size + 1, 0, none⟩ (.bool false)) := by
  have g1 := grown_set W ⟨w.heap.size, 0, none⟩ (.slice none 0 0)
  have g2 := grown_set (W.setCell ⟨w.heap.size, 0, none⟩ (.slice none 0 0)) ⟨w.heap.size + 1, 0, none⟩ (.bool false)
  have h1 := H.hN
  have e0 := blk_set H.res 0 (.slice none 0 0)
  have e1 := blk_set (blk_grown H.ok g1 (by simp)) 0 (.bool false)
  refine ⟨blk_grown e0 g2 (by simp), e1, blk_grown (blk_grown H.dfr g1 (by simp; omega)) g2 (by simp; omega), blk_grown (blk_grown H.loop g1 (by simp; omega)) g2 (by simp; omega), ?_, h1⟩
  have u1 := H.below.grown g1 H.below.size (fun j hj => by simp at hj; omega)
  exact u1.grown g2 u1.size (fun j hj => by simp at hj; omega)
theorem rows_shape {w : World} {base : Nat} {e : TypeId} {sz : Nat} {v : Value} {css : List (List Value)} (h : OwnR w base e sz v css) : ∃ a n c, v = .slice a n c := by
  obtain ⟨a, c, e, _, _⟩ := (Rws.own h).len
  exact ⟨a, _, c, e⟩
theorem rows_one (l : List En) : ∀ cs ∈ l.map enRow, ∀ u ∈ cs, u.oneCell' = true := by
  intro cs hcs u hu
  obtain ⟨x, _, rfl⟩ := List.mem_map.1 hcs
  simp [enRow] at hu
  rcases hu with rfl | rfl | rfl | rfl <;> rfl
theorem fget_small (l : List Int) (hx : ∀ y ∈ l, 0 ≤ y ∧ y ≤ 255) : (fget l).2.1.length ≤ 65536 := by
  obtain ⟨v, j, e, ⟨g1, g2, g3⟩, _⟩ := gep_any l hx
  unfold fget
  rw [g1]
  split
  · simp
  · split
    · simp
    · split
      · simp
      · split
        · simp
        · rename_i h1 h2 h3 h4
          have hb : (bareOf (l.take ((j : Int) + 1 + (v : Int) + 4).toNat)).2 = 0 := by simpa using h4
          have := (bareOf_good (l := l.take ((j : Int) + 1 + (v : Int) + 4).toNat) (x := (bareOf (l.take ((j : Int) + 1 + (v : Int) + 4).toNat)).1) (by rw [← hb])).1
          simp only [List.length_drop, List.length_take] at this ⊢
          simp at h2
          omega

set_option maxHeartbeats 4000000 in
theorem readT_any (b : List Int) (p : Nat) (a : Option Addr) (n c : Nat) (w : World) (hn : n = b.length) (hv : Octs w (.slice a n c) b) (hl : n ≤ 140737488351232) (hp : p < 4294967296) :
    Calls Try.prog 26 #[.slice a n c, .int .i64 p] w fun e w' => RdE (readT b p) w e w' := by
  have hnc := octs_cap hn hv
  refine (callsIn_wide (n := 9)).1 ?_
  refine callsIn_of_wp_marks Try.func26 rfl trivial ?_ rfl
  simp only [Try.ntmps26, List.size_toArray, List.length_cons, List.length_nil, Nat.reduceAdd, Nat.reduceSub, Array.replicate_succ, Array.replicate_zero, List.push_toArray, List.append_toArray, List.nil_append, List.cons_append]
  by_cases hnp : n < p
  · have hnp' : (n : Int) < (p : Int) := by omega
    have HE : Hid (readT b p = none) := by unfold Hid readT; rw [if_pos (by omega)]
    clear hv hn
    gi_wp2_with fail
    refine ⟨_, results_rd rfl _ _ rfl rfl (blk_al (blk_nw _ _ rfl) _) (blk_nw _ _ (by simp)), ?_⟩
    rw [HE.out]
    exact ⟨none, 0, 0, rfl, rfl, OwnR.nil _ _ _ _, up_al (up_alloc _ _) _⟩
  · have hnp' : ¬ (n : Int) < (p : Int) := by omega
    have hpn : (p : Int) ≤ (n : Int) := by omega
    have hpc : (p : Int) ≤ (c : Int) := by omega
    have hncI : (n : Int) ≤ (c : Int) := by omega
    have hpn2 : p ≤ n := by omega
    obtain ⟨A, hA⟩ : ∃ A, (if c = p then a else a.map (fun x => x.add p)) = A := ⟨_, rfl⟩
    have hO1 := octs_fromT hn hv p hpn2 hA
    have hO2 := octs_to hn hv p hpn2
    have HFG : Hid (∀ W : World, Below w.heap.size w W → Calls Try.prog 50 #[.slice A (n - p) (c - p)] W fun e w' => ∃ va vn vc, e = .returned (.tuple #[.agg #[.int .i64 (fget (b.drop p)).1, .slice va vn vc], .int .i64 (fget (b.drop p)).2.2.1, .int .i64 (fget (b.drop p)).2.2.2]) ∧ Hid (vn = (fget (b.drop p)).2.1.length ∧ Octs w' (.slice va vn vc) (fget (b.drop p)).2.1) ∧ Hid (Below W.heap.size W w')) := fun W hW => by
      refine (fget_any (b.drop p) _ W (hO1.up hW)).mono ?_
      rintro e w' ⟨vd, rfl, h1, h2⟩
      obtain ⟨va, vn, vc, rfl, hvn⟩ : ∃ va vn vc, vd = .slice va vn vc ∧ vn = (fget (b.drop p)).2.1.length := by
        obtain ⟨_, h⟩ := h1.1
        rcases h with ⟨e, ax, cap, rfl, _⟩ | ⟨hne, b0, off, cap, rfl, _⟩
        · exact ⟨ax, 0, cap, rfl, by rw [e]; rfl⟩
        · exact ⟨_, _, cap, rfl, rfl⟩
      exact ⟨va, vn, vc, rfl, ⟨hvn, h1.1⟩, h2⟩
    have hlen := fget_len (b.drop p)
    have HRT : Hid (readT b p = if (fget (b.drop p)).2.2.2 ≠ 0 then none else rdP ((fget (b.drop p)).2.1.length + 1) (b.take p) (fget (b.drop p)).2.1 []) := by unfold Hid readT; rw [if_neg (by omega)]
    rw [List.length_drop] at hlen
    have HO2 := hid hO2
    have HIL : Hid ((fget (b.drop p)).2.1.length ≤ n) := by unfold Hid; omega
    have HIS : Hid ((fget (b.drop p)).2.1.length ≤ 65536) := fget_small _ (fun y hy => hv.1 y (List.mem_of_mem_drop hy))
    have HTP : Hid (p = (b.take p).length) := by unfold Hid; rw [List.length_take]; omega
    generalize fget (b.drop p) = FG at *
    obtain ⟨kk, I, k2, ee⟩ := FG
    simp only at HFG HRT HIL HIS
    clear hv hn hO1 hO2 hlen
    gi_wp2_with fail
    refine (callsIn_wide.2 (HFG.out _ (up_al (up_alloc _ _) _))).mono ?_
    rintro e w1 ⟨va, vn, vc, rfl, DV, b1⟩
    obtain ⟨wA, hwA⟩ : ∃ wA, wA = (w.alloc (.cells #[.slice none 0 0] 22)).alloc (.cells #[.bool false] 4) := ⟨_, rfl⟩
    rw [← hwA] at b1
    have r0 : w1.heap[w.heap.size]? = some (.cells #[.slice none 0 0] 22) := blk_up (by rw [hwA]; exact blk_al (blk_nw _ _ rfl) _) b1.out
    have r1 : w1.heap[w.heap.size + 1]? = some (.cells #[.bool false] 4) := blk_up (by rw [hwA]; exact blk_nw _ _ (by simp)) b1.out
    have U1 : Below w.heap.size w w1 := up_trans (by rw [hwA]; exact up_al (up_alloc _ _) _) b1.out
    have hs2 : w.heap.size + 2 ≤ w1.heap.size := by have := blk_lt r1; omega
    clear hwA b1
    by_cases hee : ee = 0
    · subst hee
      have HRT2 : Hid (readT b p = rdP (I.length + 1) (b.take p) I []) := by unfold Hid; rw [HRT.out]; simp
      clear HRT HFG
      gi_wp2_with fail
      have HUX := hid U1
      obtain ⟨w2, hw2⟩ : ∃ w2, w2 = (w1.alloc (.cells #[.int .i64 kk, .slice va vn vc] 88)).alloc (.cells #[.slice none 0 0] 22) := ⟨_, rfl⟩
      rw [← hw2]
      have d2 : w2.heap.size = w1.heap.size + 2 := by rw [hw2]; simp
      have m0 : w2.heap[w1.heap.size]? = some (.cells #[.int .i64 kk, .slice va vn vc] 88) := by rw [hw2]; exact blk_al (blk_nw _ _ rfl) _
      have m1 : w2.heap[w1.heap.size + 1]? = some (.cells #[.slice none 0 0] 22) := by rw [hw2]; exact blk_nw _ _ (by simp)
      have V2 : Below w1.heap.size w1 w2 := by rw [hw2]; exact up_al (up_alloc _ _) _
      have HBK := hid (fun w => blocks_any a p c va vn vc w)
      have x1 : w2.drew.cell? ⟨w1.heap.size, 1, none⟩ = some (.slice va vn vc) := blk_cell m0 1 _ rfl
      have x1' : w2.cell? ⟨w1.heap.size, 1, none⟩ = some (.slice va vn vc) := blk_cell m0 1 _ rfl
      have V2d : Below w1.heap.size w1 w2.drew := up_trans V2 ⟨rfl, rfl, rfl, Nat.le_refl _, fun _ _ => rfl⟩
      have m1d : w2.drew.heap[w1.heap.size + 1]? = some (.cells #[.slice none 0 0] 22) := m1
      have d2d : w2.drew.heap.size = w1.heap.size + 2 := d2
      clear hw2
      refine wpIn_then ?_
      gi_region_with ((gi_at_call 51; refine (callsIn_wide.2 (HBK.out _)).mono ?_; rintro e w3 ⟨rfl, rfl⟩))
      clear x1 x1' HBK
      gi_wp2_with fail
      obtain ⟨w3, hw3⟩ : ∃ w3 : World, w3 = ((w2.alloc (.cells #[.slice a p c] 25)).alloc (.cells #[.slice va vn vc] 25)).drew := ⟨_, rfl⟩
      obtain ⟨M, hM⟩ : ∃ M, w1.heap.size = M := ⟨_, rfl⟩
      rw [hM] at m0 m1 m1d d2 d2d V2 V2d hs2 ⊢
      have d3 : w3.heap.size = M + 4 := by rw [hw3]; show ((w2.alloc (.cells #[.slice a p c] 25)).alloc (.cells #[.slice va vn vc] 25)).heap.size = _; simp; omega
      have c1 : w3.heap[M + 1]? = some (.cells #[.slice none 0 0] 22) := by rw [hw3]; exact blk_al (blk_al m1 _) _
      have c2 : w3.heap[M + 2]? = some (.cells #[.slice a p c] 25) := by rw [hw3]; exact blk_al (blk_nw _ _ d2) _
      have c3 : w3.heap[M + 3]? = some (.cells #[.slice va vn vc] 25) := by rw [hw3]; exact blk_nw _ _ (by simp; omega)
      have V2e : Below w1.heap.size w1 w2 := by rw [hM]; exact V2
      have V2a := up_al (up_al V2e (.cells #[.slice a p c] 25)) (.cells #[.slice va vn vc] 25)
      have V3 : Below w1.heap.size w1 w3 := by rw [hw3]; exact up_trans V2a (show Below ((w2.alloc (.cells #[.slice a p c] 25)).alloc (.cells #[.slice va vn vc] 25)).heap.size ((w2.alloc (.cells #[.slice a p c] 25)).alloc (.cells #[.slice va vn vc] 25)) ((w2.alloc (.cells #[.slice a p c] 25)).alloc (.cells #[.slice va vn vc] 25)).drew from ⟨rfl, rfl, rfl, Nat.le_refl _, fun _ _ => rfl⟩)
      have hp23 : (w2.drew.heap.size) = M + 2 := d2d
      rw [← hw3]
      simp only [d2] at *
      clear hw3
      refine range_law rfl (enters_of Try.func67 (by kernel_rfl) rfl) ?_
      intro r r1' r2' r3' r4' r5' r6'
      rw [d3]
      have J0 : RdW w w1 M (.slice a p c) (.slice va vn vc) (.slice none 0 0) [] r ((w3.alloc (.deferred (some []))).alloc (.loop r)) := by
        refine ⟨blk_al (blk_al (blk_up r0 V3) _) _, blk_al (blk_al (blk_up r1 V3) _) _, blk_al (blk_al c1 _) _, blk_al (blk_al c2 _) _, blk_al (blk_al c3 _) _, blk_al (blk_nw _ _ d3) _, blk_nw _ _ (by simp; omega), OwnR.nil _ _ _ _, up_al (up_al V3 _) _, up_trans U1 (up_al (up_al V3 _) _), hM, by omega⟩
      generalize (w3.alloc (.deferred (some []))).alloc (.loop r) = W1 at *
      have h0 : BkI w1 (b.take p) I a p c va vn vc := ⟨HTP.out, HO2.out.up U1, by omega, DV.out.1, DV.out.2, by have := DV.out.1; have := HIS.out; omega⟩
      obtain ⟨rd, hrd⟩ : ∃ rd : Loop, rd = { r with state := .done, pending := some .ret } := ⟨_, rfl⟩
      have rd1 : rd.state = .done := by rw [hrd]
      have rd2 : rd.pending = some .ret := by rw [hrd]
      have HRD : Hid (rd = { r with state := .done, pending := some .ret }) := hrd
      have HM : Hid (w1.heap.size = M) := hM
      clear hrd c1 c2 c3 V3 V2 V2e V2a V2d m0 m1 m1d d2 d2d d3 hp23 r0 r1 hM
      refine (blk_in 8 (M + 4 + 1) (M + 2) w1 (b.take p) I a p c va vn vc h0
        (fun left rows W => left.length ≤ 4294967296 ∧ rows.length ≤ I.length ∧ (∀ y ∈ rows, 0 ≤ y ∧ y ≤ 255) ∧ ∃ acc la ln lc, RdW w w1 M (.slice a p c) (.slice va vn vc) (.slice la ln lc) acc r W ∧ (∃ f, rows.length < f ∧ rdP f left rows acc = readT b p) ∧ acc.length ≤ 64 * (I.length - rows.length))
        (fun W => readT b p = none ∧ RdD w M rd W) W1 ?hY ?hK ?hU ⟨by rw [← HTP.out]; omega, Nat.le_refl _, DV.out.2.1, [], none, 0, 0, J0, ⟨I.length + 1, by omega, HRT2.out.symm⟩, by simp⟩).mono ?post
      case hK =>
        rintro left rows W' ⟨_, _, _, acc, la, ln, lc, H, _, _⟩
        exact ⟨H.low, blk_cell H.b0 0 _ rfl, blk_cell H.b1 0 _ rfl⟩
      case hU =>
        rintro left rows W1 W2 ⟨h1, h2, h3, acc, la, ln, lc, H, h5, h6⟩ hb
        exact ⟨h1, h2, h3, acc, la, ln, lc, H.up hb, h5, h6⟩
      case post =>
        rintro e W' ⟨hv, hor⟩
        refine ⟨hv, ?_⟩
        rcases hor with ⟨left, rows, ⟨_, _, _, acc, la, ln, lc, H, ⟨f, hf, hrd⟩, _⟩, hend⟩ | ⟨hnone, H⟩
        · refine ⟨r, H.loop, (by rw [r1']; simp), .inl ⟨r2', ?_⟩⟩
          have HRES : Hid (readT b p = some acc) := by unfold Hid; rw [← hrd]; exact rdP_none hf hend
          have H2 : RdW w w1 M (.slice a p c) (.slice va vn vc) (.slice la ln lc) acc { r with state := .exhausted } (W'.putObj (M + 4 + 1) (.loop { r with state := .exhausted })) := H.put { r with state := .exhausted }
          have HH := hid H2
          generalize W'.putObj (M + 4 + 1) (.loop { r with state := .exhausted }) = W2 at *
          have q1 := blk_cell HH.out.lb 0 _ rfl
          have q2 := blk_cell HH.out.res 0 _ rfl
          have q3 := blk_frozen HH.out.res 0
          have q4 := blk_cell HH.out.ok 0 _ rfl
          have q5 := blk_frozen HH.out.ok 0
          clear H H2 J0 h0 r1' r2' r3' r4' r5' r6' rd1 rd2 hrd hf hend
          gi_wp2_with fail
          have g1 := grown_set W2 ⟨w.heap.size, 0, none⟩ (.slice la ln lc)
          have g2 := grown_set (W2.setCell ⟨w.heap.size, 0, none⟩ (.slice la ln lc)) ⟨w.heap.size + 1, 0, none⟩ (.bool true)
          have hN := HH.out.hN
          have hdf := blk_grown (blk_grown HH.out.dfr g1 (by simp; omega)) g2 (by simp; omega)
          have z0 := blk_grown (blk_set HH.out.res 0 (.slice la ln lc)) g2 (by simp)
          have z1 := blk_set (blk_grown HH.out.ok g1 (by simp)) 0 (.bool true)
          have z2 := (HH.out.ol.apart g1 (fun k hk => by simp at hk; omega)).apart g2 (fun k hk => by simp at hk; omega)
          have u1 := HH.out.below.grown g1 HH.out.below.size (fun j hj => by simp at hj; omega)
          have u2 := u1.grown g2 u1.size (fun j hj => by simp at hj; omega)
          generalize (W2.setCell ⟨w.heap.size, 0, none⟩ (.slice la ln lc)).setCell ⟨w.heap.size + 1, 0, none⟩ (.bool true) = W3 at *
          refine ⟨by simp, .inl ⟨_, _, rfl, run_takeDeferred (ds := []) hdf, ?_⟩⟩
          have g3 := grownBy_putObj' W3 (M + 4) (.deferred none)
          refine ⟨_, results_rd (x := .slice la ln lc) (y := .bool true) rfl _ _ rfl rfl (blk_grown z0 g3 (by simp; omega)) (blk_grown z1 g3 (by simp; omega)), ?_⟩
          rw [HRES.out]
          refine ⟨la, ln, lc, rfl, ?_, OwnR.mono (z2.apart g3 (fun k hk => by simp at hk; omega)) (by omega), u2.grown g3 u2.size (fun j hj => by simp at hj; omega)⟩
          obtain ⟨_, _, e6, _, _⟩ := (Rws.own z2).len
          simp only [Value.slice.injEq, List.length_map] at e6
          exact e6.2.1
        · refine ⟨rd, H.loop, by rw [rd1]; simp, .inr ⟨rd2, ?_⟩⟩
          have H2 : RdD w M { rd with state := .exhausted } (W'.putObj (M + 4 + 1) (.loop { rd with state := .exhausted })) := H.put { rd with state := .exhausted }
          have hN := H.hN
          generalize W'.putObj (M + 4 + 1) (.loop { rd with state := .exhausted }) = W2 at *
          refine ⟨by simp, .inl ⟨_, _, rfl, run_takeDeferred (ds := []) H2.dfr, ?_⟩⟩
          have g3 := grownBy_putObj' W2 (M + 4) (.deferred none)
          refine ⟨_, results_rd (x := .slice none 0 0) (y := .bool false) rfl _ _ rfl rfl (blk_grown H2.res g3 (by simp; omega)) (blk_grown H2.ok g3 (by simp; omega)), ?_⟩
          rw [hnone]
          exact ⟨none, 0, 0, rfl, rfl, OwnR.nil _ _ _ _, H2.below.grown g3 H2.below.size (fun j hj => by simp at hj; omega)⟩
      case hY =>
        rintro left rows s k vva vvc W0 hrow hsl hoc ⟨h1, h2, h3, acc, la, ln, lc, H, ⟨f, hf, hrdp⟩, h6⟩
        obtain ⟨hk1, hk2, _⟩ := rowP_le h3 hrow
        have htl : (left.take s).length = s := by rw [List.length_take]; omega
        have HDE : Hid (∀ W : World, Below w1.heap.size w1 W → Calls Try.prog 52 #[.slice vva s vvc] W fun e w' => ∃ a n c, e = .returned (.tuple #[.slice a n c, .int .i64 (decB (left.take s)).2]) ∧ Hid (n = (decB (left.take s)).1.length) ∧ Hid (OwnR w' W.heap.size 32 4 (.slice a n c) ((decB (left.take s)).1.map enRow)) ∧ Hid (Below W.heap.size W w')) := fun W hW => decode_any (left.take s) _ W (hoc.up hW) (by rw [htl]; omega)
        have hDL := decB_len (left.take s)
        have HBAD : Hid ((decB (left.take s)).2 ≠ 0 → readT b p = none) := fun h => by rw [← hrdp]; exact rdP_bad hf hrow hsl h
        have HGO : Hid ((decB (left.take s)).2 = 0 → (∃ g, (rows.drop k).length < g ∧ rdP g (left.drop s) (rows.drop k) (acc ++ (decB (left.take s)).1) = readT b p) ∧ (decB (left.take s)).1 ≠ []) := fun h => by
          obtain ⟨g, q1, q2⟩ := rdP_step (acc := acc) hf hrow hsl ⟨hk1, hk2⟩ h
          exact ⟨⟨g, q1, by rw [← q2]; exact hrdp⟩, decB_pos h⟩
        have HREST : Hid ((left.drop s).length ≤ 4294967296 ∧ (rows.drop k).length ≤ I.length ∧ (∀ y ∈ rows.drop k, 0 ≤ y ∧ y ≤ 255) ∧ acc.length + 64 ≤ 64 * (I.length - (rows.drop k).length)) := by
          refine ⟨by rw [List.length_drop]; omega, by rw [List.length_drop]; omega, fun y hy => h3 y (List.mem_of_mem_drop hy), ?_⟩
          rw [List.length_drop]
          omega
        have HAL : Hid (acc.length ≤ 4194304) := by have := HIS.out; unfold Hid; omega
        clear hrow hsl hoc h1 h2 h3 hf hrdp h6 hk1 hk2 htl
        generalize hDD : decB (left.take s) = DD at *
        obtain ⟨DL, de⟩ := DD
        clear hDD
        simp only at HDE hDL HBAD HGO
        refine ⟨r.fn, _, r.assign, r.body, run_yield H.loop (by rw [r4']; rfl), roundIn_of_wpIn trivial ?_⟩
        rw [r3', r4', r5', r6']
        gi_wp2_with fail
        refine ⟨_, run_beginRound H.loop r1', ?_⟩
        have H2 : RdW w w1 M (.slice a p c) (.slice va vn vc) (.slice la ln lc) acc { r with state := .busy } (W0.putObj (M + 4 + 1) (.loop { r with state := .busy })) := H.put { r with state := .busy }
        have HR : Hid (r.state = .ready ∧ r.pending = none) := ⟨r1', r2'⟩
        generalize W0.putObj (M + 4 + 1) (.loop { r with state := .busy }) = Wb at *
        have HB := hid H2
        clear H H2 J0 h0 r1' r2' r3' r4' r5' r6' rd1 rd2
        gi_wp2_with fail
        refine (CallsIn.inRound _ (callsIn_wide.2 (HDE.out _ HB.out.low))).mono ?_
        rintro e W4 ⟨xa, xn, xc, rfl, hxn, XO, b4⟩
        have HB4 := hid (HB.out.up b4.out)
        clear HDE HB b4
        by_cases hde : de = 0
        · subst hde
          obtain ⟨hgo, hne⟩ := HGO.out rfl
          have HGO2 := hid hgo
          have HR4 := hid (Rws.own XO.out)
          have HNE : Hid (DL.map enRow ≠ []) := by simpa [Hid] using hne
          have HZ : Hid (((acc.map enRow).length + (DL.map enRow).length) * 48 ≤ 140737488355328 ∧ (acc.map enRow).length + (DL.map enRow).length ≤ maxLen) := by
            have := HAL.out
            unfold Hid maxLen
            simp only [List.length_map]
            omega
          have q1 := blk_cell HB4.out.lb 0 _ rfl
          clear hgo hne HGO HBAD XO
          gi_wp2_with (gi_at_builtin; refine wpListIn_append_rows W4 rfl _ _ 22 32 _ 4 48 rfl Try.underlying22 Try.info32 rfl (by decide) (M + 6) (.slice la ln lc) (acc.map enRow) rfl HB4.out.ol (.slice xa xn xc) (DL.map enRow) rfl HR4.out HNE.out (rows_one DL) HZ.out.1 HZ.out.2 HB4.out.hb ?_)
          intro v5 W5 ho hg
          obtain ⟨ba5, bn5, bc5, rfl⟩ := rows_shape ho
          rw [← List.map_append] at ho
          obtain ⟨k1, H6⟩ := HB4.out.setL (acc' := acc ++ DL) ho hg
          have p1 := blk_cell k1 0 _ rfl
          have p2 := blk_frozen k1 0
          have HB6 := hid H6
          clear ho hg k1 H6 HB4 q1 HR4
          gi_wp2_with fail
          have hend := run_endRound (P := Try.prog) none HB6.out.loop
          have hrr2 : ({ ({ r with state := .busy } : Loop) with state := if (none : Option Code).isNone then LoopState.ready else LoopState.done, pending := none } : Loop) = r := by
            obtain ⟨r1, r2⟩ := HR.out
            cases r
            simp at r1 r2
            subst r1 r2
            rfl
          rw [hrr2] at hend
          obtain ⟨e1, e2, e3, e4⟩ := HREST.out
          refine ⟨_, _, hend, .inl ⟨rfl, by first | exact e1 | (simp only [List.length_drop] at e1; omega), by first | exact e2 | (simp only [List.length_drop] at e2; omega), e3, acc ++ DL, ⟨_, _, _, HB6.out.put r⟩, by simpa using HGO2.out, ?_⟩⟩
          simp only [List.length_append, List.length_drop] at *
          omega
        · have hq1 : (de == 0) = false := by simp [hde]
          have hq2 : (de != 0) = true := by simp [hde]
          have HNO := hid (HBAD.out hde)
          have y0 := blk_cell HB4.out.res 0 _ rfl
          have y1 := blk_frozen HB4.out.res 0
          have y2 := blk_cell HB4.out.ok 0 _ rfl
          have y3 := blk_frozen HB4.out.ok 0
          clear HGO HBAD XO
          gi_wp2_with fail
          have HB5 := hid (HB4.out.same)
          have hend := run_endRound (P := Try.prog) (some .ret) HB5.out.loop
          have hrr2 : ({ ({ r with state := .busy } : Loop) with state := if (some Code.ret).isNone then LoopState.ready else LoopState.done, pending := some .ret } : Loop) = rd := by
            rw [HRD.out]
            rfl
          rw [hrr2] at hend
          exact ⟨_, _, hend, .inr ⟨rfl, HNO.out, HB5.out.put rd⟩⟩
    · have HE : Hid (readT b p = none) := by unfold Hid; rw [HRT.out, if_pos (by simpa using hee)]
      have hq1 : (ee == 0) = false := by simp [hee]
      have hq2 : (ee != 0) = true := by simp [hee]
      have HX := hid (show w1.heap[w.heap.size]? = some (.cells #[.slice none 0 0] 22) ∧ w1.heap[w.heap.size + 1]? = some (.cells #[.bool false] 4) ∧ Below w.heap.size w w1 from ⟨r0, r1, U1⟩)
      have y0 : ∀ o, (w1.alloc o).cell? ⟨w.heap.size, 0, none⟩ = some (.slice none 0 0) := fun o => blk_cell (blk_al r0 o) 0 _ rfl
      have y1 : ∀ o, (w1.alloc o).cell? ⟨w.heap.size + 1, 0, none⟩ = some (.bool false) := fun o => blk_cell (blk_al r1 o) 0 _ rfl
      have f0 : ∀ o, (w1.alloc o).frozen? ⟨w.heap.size, 0, none⟩ = false := fun o => blk_frozen (blk_al r0 o) 0
      have f1 : ∀ o, (w1.alloc o).frozen? ⟨w.heap.size + 1, 0, none⟩ = false := fun o => blk_frozen (blk_al r1 o) 0
      clear HRT HFG
      gi_wp2_with fail
      obtain ⟨z0, z1, z2⟩ := HX.out
      refine ⟨_, results_rd (x := .slice none 0 0) (y := .bool false) rfl _ _ rfl rfl ?cc ?dd, ?_⟩
      case cc => exact blk_grown (blk_set (blk_al z0 _) 0 _) (grown_set _ _ _) (by simp)
      case dd => exact blk_set (blk_grown (blk_al z1 _) (grown_set _ _ _) (by simp)) 0 _
      rw [HE.out]
      refine ⟨none, 0, 0, rfl, rfl, OwnR.nil _ _ _ _, ?_⟩
      have u1 := up_al z2 (.cells #[.int .i64 kk, .slice va vn vc] 88)
      have u2 := u1.grown (grown_set _ ⟨w.heap.size, 0, none⟩ (.slice none 0 0)) u1.size (fun j hj => by simp at hj; omega)
      exact u2.grown (grown_set _ ⟨w.heap.size + 1, 0, none⟩ (.bool false)) u2.size (fun j hj => by simp at hj; omega)
end Go.Proofs.Ytekoniaobmapdab

/- The program's readFoot of layer 10. -/
namespace Go.Proofs.Ytekoniaobmapdab
open Go.RowKit SumPlain
set_option linter.unusedVariables false
set_option linter.unusedSimpArgs false

/-- Where the foot says that the index begins. -/
def footP (b : List Int) : Nat × Int :=
  if b.length < 20 then (0, 8) else
    if (bareOf (footL b)).2 ≠ 0 then (0, (bareOf (footL b)).2) else
      if (bareOf (footL b)).1.take 4 ≠ [116, 107, 116, 98] then (0, 22) else (numL ((bareOf (footL b)).1.drop 4), 0)

set_option maxHeartbeats 2000000 in
set_option maxRecDepth 20000 in
theorem prefix_any (l p : List Int) (a : Option Addr) (c : Nat) (v : Value) (pa : Option Addr) (pc : Nat) (w : World) (hv : Octs w (.slice a l.length c) l) (hp : Octs w (.slice pa p.length pc) p) (hl : p.length ≤ l.length) : Calls Try.prog 49 #[.slice a l.length c, .slice pa p.length pc] w fun e w' => e = .returned (.bool (decide (l.take p.length = p))) ∧ w' = w := by
  have h1 : Octs w (.slice a p.length c) (l.take p.length) := by
    rcases hv.form with ⟨rfl, rfl, rfl⟩ | ⟨x, rfl, rfl⟩ | ⟨b, off, rfl, hne, _, _⟩
    · simp at hl
      simp [hl] at hv ⊢
      exact hv
    · simp at hl
      simp [hl] at hv ⊢
      exact hv
    · exact hv.cut rfl _ hl
  have HE := hid (equal_any _ _ _ _ w h1 hp)
  obtain ⟨n, hn⟩ : ∃ n, n = l.length := ⟨_, rfl⟩
  obtain ⟨m, hm⟩ : ∃ m, m = p.length := ⟨_, rfl⟩
  have hc : l.length ≤ c := by
    rcases hv.form with ⟨rfl, rfl, rfl⟩ | ⟨x, rfl, rfl⟩ | ⟨b, off, rfl, hne, h, _⟩
    · simp
    · simp
    · exact h
  rw [← hn] at hl hc ⊢
  rw [← hm] at hl HE ⊢
  have hl' : (m : Int) ≤ (n : Int) := by omega
  have hl2 : (m : Int) ≤ (c : Int) := by omega
  generalize decide (l.take m = p) = r at *
  clear hv hp h1 hn hm
  go_enter Try.func49, Try.ntmps49
  go_wp2_with fail
  refine HE.out.mono ?_
  rintro e w' ⟨rfl, rfl⟩
  go_wp2
  go_ret
  exact ⟨rfl, rfl⟩

theorem or_octF (A y : Int) (hA : 0 ≤ A) (hA2 : A ≤ 16777215) (hy : 0 ≤ y) (hy2 : y ≤ 255) : bits .or .i64 (A * 256) y = A * 256 + y := by
  have := or_add 8 A y hA (by omega) (by omega) hy (by simp; omega)
  simpa using this

set_option maxHeartbeats 4000000 in
set_option maxRecDepth 20000 in
theorem readFoot_any (b : List Int) (a : Option Addr) (n c : Nat) (w : World) (hn : n = b.length) (hv : Octs w (.slice a n c) b) (hl : n ≤ 140737488351232) :
    Calls Try.prog 25 #[.slice a n c] w fun e w' => e = .returned (.tuple #[.int .i64 ((footP b).1 : Nat), .int .i64 (footP b).2]) ∧ Hid (Below w.heap.size w w') := by
  by_cases h20 : n < 20
  · have h20' : (n : Int) < 20 := by omega
    have e : footP b = (0, 8) := by unfold footP; rw [if_pos (by omega)]
    rw [e]
    clear hv hn e
    go_enter Try.func25, Try.ntmps25
    go_wp2
    go_ret2
    exact ⟨rfl, Below.refl _ _⟩
  · have h20' : ¬ (n : Int) < 20 := by omega
    have hb20 : ¬ b.length < 20 := by omega
    obtain ⟨bb, off, rfl, hne, hbc, _⟩ : ∃ bb off, a = some ⟨bb, off, none⟩ ∧ b ≠ [] ∧ b.length ≤ c ∧ c ≤ maxLen := by
      rcases (show Octs w (.slice a b.length c) b by rw [← hn]; exact hv).form with ⟨rfl, rfl, rfl⟩ | ⟨x, rfl, rfl⟩ | h
      · simp at hb20
      · simp at hb20
      · exact h
    obtain ⟨p, hp⟩ : ∃ p, p = n - 20 := ⟨_, rfl⟩
    have hOF : Octs w (.slice (some ⟨bb, off + p, none⟩) 20 (c - p)) (footL b) := by
      have := hv.back hn p (by omega) (by omega)
      rw [show n - p = 20 by omega] at this
      unfold footL
      rw [← hn, ← hp]
      exact this
    have hfl : (footL b).length = 20 := by unfold footL; rw [List.length_drop]; omega
    have HBA := hid (bare_any (footL b) _ w hOF (by rw [hfl]; omega))
    have hpn : (n : Int) - 20 = (p : Int) := by omega
    have hwp : IntKind.i64.wrap (p : Int) = (p : Int) := by rw [IntKind.wrap_i64]; omega
    have hp1 : (p : Int) ≤ (n : Int) := by omega
    have hp2 : p ≤ n := by omega
    have hpc : ¬ c = p := by omega
    have hnp : n - p = 20 := by omega
    have hncI : (n : Int) ≤ (c : Int) := by omega
    by_cases hb0 : (bareOf (footL b)).2 = 0
    · have hT := bare_len hb0 hfl
      have hTO : ∀ x ∈ (bareOf (footL b)).1, 0 ≤ x ∧ x ≤ 255 := bareOf_octet _ hOF.1
      have HFP : Hid (footP b = if (bareOf (footL b)).1.take 4 ≠ [116, 107, 116, 98] then (0, 22) else (numL ((bareOf (footL b)).1.drop 4), 0)) := by unfold Hid footP; rw [if_neg hb20, if_neg (by simpa using hb0)]
      rw [hb0] at HBA
      generalize (bareOf (footL b)).1 = T at *
      have HT : Hid (T.length = 16) := hT
      have kc := fun (w : World) (C : Array Value) (n c : Nat) => Lib.run_convert_bytes_const (P := Try.prog) w 25 5 C n c Try.underlying25 Try.underlying5
      clear hv hOF hfl hp hT hn hb0 hne hbc
      go_enter Try.func25, Try.ntmps25
      go_wp2_with fail
      refine HBA.out.mono ?_
      rintro e w1 ⟨v1, rfl, O1, b1⟩
      obtain ⟨ta, tn, tc, rfl, htn⟩ := own_shape O1
      obtain rfl : tn = 16 := by rw [htn.out, HT.out]
      obtain ⟨g, rfl⟩ : ∃ g, ta = some ⟨g, 0, none⟩ := by
        obtain ⟨_, h⟩ := O1
        rcases h with ⟨e, h0⟩ | ⟨g, c2, cur, e, _⟩
        · simp at h0
          have := HT.out
          rw [h0] at this; simp at this
        · simp at e
          exact ⟨g, e.1⟩
      have O1' : OwnB w1 w.heap.size (.slice (some ⟨g, 0, none⟩) 16 tc) T := O1
      unfold OwnB at O1'
      rw [HT.out] at O1'
      have c4 := O1'.cellAt 4 (by omega)
      have c5 := O1'.cellAt 5 (by omega)
      have c6 := O1'.cellAt 6 (by omega)
      have c7 := O1'.cellAt 7 (by omega)
      have cx : ∀ k, k < 16 → (T.map (Value.int .u8))[k]? = some (.int .u8 (T.getD k 0)) := fun k hk => by
        have : k < T.length := by rw [HT.out]; exact hk
        simp [List.getElem?_eq_getElem this, List.getD]
      rw [cx 4 (by omega)] at c4
      rw [cx 5 (by omega)] at c5
      rw [cx 6 (by omega)] at c6
      rw [cx 7 (by omega)] at c7
      have d4 := hTO _ (List.mem_of_getElem? (show T[4]? = some (T.getD 4 0) by simpa [List.getElem?_map] using cx 4 (by omega)))
      have d5 := hTO _ (List.mem_of_getElem? (show T[5]? = some (T.getD 5 0) by simpa [List.getElem?_map] using cx 5 (by omega)))
      have d6 := hTO _ (List.mem_of_getElem? (show T[6]? = some (T.getD 6 0) by simpa [List.getElem?_map] using cx 6 (by omega)))
      have d7 := hTO _ (List.mem_of_getElem? (show T[7]? = some (T.getD 7 0) by simpa [List.getElem?_map] using cx 7 (by omega)))
      have HNM : Hid (((numL (T.drop 4) : Nat) : Int) = ((T.getD 4 0 * 256 + T.getD 5 0) * 256 + T.getD 6 0) * 256 + T.getD 7 0) := by
        unfold Hid numL
        rw [show (T.drop 4).getD 0 0 = T.getD 4 0 by simp [List.getD], show (T.drop 4).getD 1 0 = T.getD 5 0 by simp [List.getD], show (T.drop 4).getD 2 0 = T.getD 6 0 by simp [List.getD], show (T.drop 4).getD 3 0 = T.getD 7 0 by simp [List.getD]]
        omega
      have OC := octs_const w1 [116, 107, 116, 98] rfl (by decide) (4, 5)
      have OT : Octs (w1.alloc (.cells ([116, 107, 116, 98].map (Value.int .u8)).toArray 5 (4, 5))) (.slice (some ⟨g, 0, none⟩) T.length tc) T := by rw [HT.out]; exact (Octs.own O1 hTO).up (up_alloc _ _)
      have HPF := hid (prefix_any T [116, 107, 116, 98] _ _ undef _ _ _ OT OC (by rw [HT.out]; decide))
      rw [HT.out] at HPF
      simp only [List.length_cons, List.length_nil, Nat.reduceAdd, List.map_cons, List.map_nil] at HPF
      have U1 : Hid (Below w.heap.size w (w1.alloc (.cells #[.int .u8 116, .int .u8 107, .int .u8 116, .int .u8 98] 5 (4, 5)))) := up_al b1 _
      have y4 := (up_alloc w1 (.cells #[.int .u8 116, .int .u8 107, .int .u8 116, .int .u8 98] 5 (4, 5))).cell (World.block_lt_of_cell? _ _ c4)
      have y5 := (up_alloc w1 (.cells #[.int .u8 116, .int .u8 107, .int .u8 116, .int .u8 98] 5 (4, 5))).cell (World.block_lt_of_cell? _ _ c5)
      have y6 := (up_alloc w1 (.cells #[.int .u8 116, .int .u8 107, .int .u8 116, .int .u8 98] 5 (4, 5))).cell (World.block_lt_of_cell? _ _ c6)
      have y7 := (up_alloc w1 (.cells #[.int .u8 116, .int .u8 107, .int .u8 116, .int .u8 98] 5 (4, 5))).cell (World.block_lt_of_cell? _ _ c7)
      rw [c4] at y4
      rw [c5] at y5
      rw [c6] at y6
      rw [c7] at y7
      have hT4 : (T.take 4 = [116, 107, 116, 98]) ∨ ¬ (T.take 4 = [116, 107, 116, 98]) := Classical.em _
      have htc : (8 : Int) ≤ (tc : Int) := by
        obtain ⟨_, _, e, h⟩ := own_len O1
        simp only [Value.slice.injEq] at e
        have := HT.out
        omega
      have htc4 : ¬ tc = 4 := by omega
      clear O1 O1' OC OT c4 c5 c6 c7 cx b1 hTO htn HBA
      generalize T.getD 4 0 = x4 at *
      generalize T.getD 5 0 = x5 at *
      generalize T.getD 6 0 = x6 at *
      generalize T.getD 7 0 = x7 at *
      go_wp2_with fail
      refine HPF.out.mono ?_
      rintro e w2 ⟨rfl, rfl⟩
      generalize w1.alloc (.cells #[.int .u8 116, .int .u8 107, .int .u8 116, .int .u8 98] 5 (4, 5)) = W2 at *
      clear kc HPF
      rcases hT4 with hT4 | hT4
      · have HE : Hid (footP b = (numL (T.drop 4), 0)) := by unfold Hid; rw [HFP.out, if_neg (by simpa using hT4)]
        have hdec : decide (T.take 4 = [116, 107, 116, 98]) = true := by simp [hT4]
        rw [hdec]
        have o1 := or_octF x4 x5 d4.1 (by omega) d5.1 d5.2
        have o2 := or_octF (x4 * 256 + x5) x6 (by omega) (by omega) d6.1 d6.2
        have o3 := or_octF ((x4 * 256 + x5) * 256 + x6) x7 (by omega) (by omega) d7.1 d7.2
        have o0 : bits .or .i64 0 x4 = x4 := by simpa using or_octF 0 x4 (by omega) (by omega) d4.1 d4.2
        have z0 : IntKind.i64.wrap x4 = x4 := wrap64_id _ (by omega) (by omega)
        have z1 : IntKind.i64.wrap x5 = x5 := wrap64_id _ (by omega) (by omega)
        have z2 : IntKind.i64.wrap x6 = x6 := wrap64_id _ (by omega) (by omega)
        have z3 : IntKind.i64.wrap x7 = x7 := wrap64_id _ (by omega) (by omega)
        have v1 : IntKind.i64.wrap (x4 * 256) = x4 * 256 := wrap64_id _ (by omega) (by omega)
        have v2 : IntKind.i64.wrap ((x4 * 256 + x5) * 256) = (x4 * 256 + x5) * 256 := wrap64_id _ (by omega) (by omega)
        have v3 : IntKind.i64.wrap (((x4 * 256 + x5) * 256 + x6) * 256) = ((x4 * 256 + x5) * 256 + x6) * 256 := wrap64_id _ (by omega) (by omega)
        clear hT4 hdec HFP
        go_wp2_with fail
        refine wp_loop_rounds 5 ?_
        rw [rounds_succ]
        go_wp2
        rw [rounds_succ]
        go_wp2
        rw [rounds_succ]
        go_wp2
        rw [rounds_succ]
        go_wp2
        rw [rounds_succ]
        go_wp2
        go_ret2
        rw [HE.out]
        simp only [HNM.out]
        exact ⟨rfl, U1.out⟩
      · have HE : Hid (footP b = (0, 22)) := by unfold Hid; rw [HFP.out, if_pos (by simpa using hT4)]
        have hdec : decide (T.take 4 = [116, 107, 116, 98]) = false := by simp [hT4]
        rw [hdec]
        clear hT4 hdec HFP
        go_wp2
        go_ret2
        rw [HE.out]
        exact ⟨rfl, U1.out⟩
    · have e : footP b = (0, (bareOf (footL b)).2) := by unfold footP; rw [if_neg hb20, if_pos hb0]
      rw [e]
      generalize (bareOf (footL b)).2 = q at *
      have hq1 : (q == 0) = false := by simp [hb0]
      have hq2 : (q != 0) = true := by simp [hb0]
      clear hv hOF hfl hp hn e hne hbc
      go_enter Try.func25, Try.ntmps25
      go_wp2_with fail
      refine HBA.out.mono ?_
      rintro e w1 ⟨v1, rfl, O1, b1⟩
      obtain ⟨ta, tn, tc, rfl, _⟩ := own_shape O1
      have HB1 := hid b1
      clear O1 b1
      go_wp2
      go_ret2
      exact ⟨rfl, HB1.out⟩
end Go.Proofs.Ytekoniaobmapdab
