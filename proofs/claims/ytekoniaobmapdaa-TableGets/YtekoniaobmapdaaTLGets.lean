/- TableGets walked upon what is wanted of the program. -/
import Derived.Test.YtekoniaobmapdaaG33
import Derived.Deep.RegionHeld3
namespace Go.Proofs.Ytekoniaobmapdaa
open Go.RowKit SumPlain
set_option linter.unusedVariables false
set_option linter.unusedSimpArgs false

set_option maxHeartbeats 8000000 in
set_option maxRecDepth 100000 in
theorem gets_walk (P : PgT) (l0 : List En) (a : Option Addr) (n c : Nat) (w : World) (hn : n = l0.length) (hl : EntsR w (.slice a n c) l0) :
    Calls Try.prog 5 #[.slice a n c] w fun e w' => e = .returned (.bool true) ∧ Below w.heap.size w w' := by
  have HP : Hid PgT := P
  have HN : Hid (∀ (x : Int) (W : World), Calls Try.prog 9 #[.int .i64 x] W fun e w' => e = .returned (.int .i64 x) ∧ w' = W) := num_any
  have HL0 : Hid (EntsR w (.slice a n c) l0) := hl
  have HNL : Hid (n = l0.length) := hn
  obtain ⟨_, _, e0, hc0, hm0⟩ := hl.len
  simp only [Value.slice.injEq] at e0
  have hnc : n ≤ c := by omega
  clear hl e0 hc0 hm0 hn
  obtain ⟨m, hm, hmn⟩ : ∃ m : Nat, (if (40 : Int) < (n : Int) then (40 : Int) else (n : Int)) = (m : Int) ∧ m ≤ n := by
    by_cases h : 40 < n
    · exact ⟨40, by rw [if_pos (by omega)]; rfl, by omega⟩
    · exact ⟨n, by rw [if_neg (by omega)], Nat.le_refl _⟩
  have hmcI : (m : Int) ≤ (c : Int) := by omega
  have hm40 : m ≤ 40 := by split at hm <;> omega
  go_enter Try.func5, Try.ntmps5
  go_wp2_with fail
  refine (HP.out.alive _).mono ?_
  rintro e w1 ⟨rfl, b1⟩
  have U1 : Hid (Below w.heap.size w w1) := b1
  clear b1
  have EL : Hid (EntsR w1 (.slice a m c) (l0.take m)) := ents_cut HNL.out (HL0.out.up U1.out) m hmn
  have HM : Hid (m = (l0.take m).length) := by unfold Hid; rw [List.length_take, ← HNL.out]; omega
  clear HL0 HNL
  generalize l0.take m = l at *
  go_upto_region 4 with fail
  clear hm hmn
  go_wp2_with fail
  refine (HP.out.build l _ _ EL.out).mono ?_
  rintro e w2 ⟨xa, xn, xc, rfl, hxn, OX, b2⟩
  have U2 : Hid (Below w.heap.size w w2) := up_trans U1.out b2.out
  have EL2 : Hid (EntsR w2 (.slice a m c) l) := EntsR.up EL.out b2.out
  clear b2 EL
  by_cases hp : (buildB l).2 = 0
  · have hch : chkT l = 0 := buildB_zero.1 hp
    rw [buildB_good hch] at hxn OX ⊢
    have HPW : Hid (l.Pairwise (fun a b => beforeE a b = true)) := (ord_all l none (chkT_ok hch).2.2).2
    have HMA : Hid (∀ x ∈ l, 1 ≤ x.seq ∧ x.seq ≤ 1099511627776) := fun x hx => by
      have := mayE_le (ordE_may l none (chkT_ok hch).2.2 x hx)
      omega
    have HG : Hid (∀ (key : ByteArray) (seq : Int) (W : World), Below w2.heap.size w2 W → Calls Try.prog 14 #[.slice xa xn xc, .string key, .int .i64 seq] W fun e w' => e = .returned (.tuple #[enV (firstV l key seq).1, .bool (firstV l key seq).2, .int .i64 0]) ∧ Below w2.heap.size w2 w' ∧ Below W.heap.size W w') := fun key seq W h => by
      have h1 := HP.out.get (tabO l) xa xn xc key seq W hxn.out ((Octs.own OX.out (tab_oct hch)).up h) (by have h2 := (tab_le hch).2; have h3 : xn = (tabO l).length := hxn.out; omega)
      rw [getT_tab hch] at h1
      refine h1.mono ?_
      rintro e w' ⟨rfl, hb⟩
      exact ⟨rfl, up_trans h hb.out, hb.out⟩
    clear hp hch OX hxn
    go_wp2_with fail
    refine (HN.out _ _).mono ?_
    rintro e w3 ⟨rfl, rfl⟩
    go_wp2_with fail
    go_loopw [5] (fun i wr => ∃ k : Nat, k ≤ m ∧ i = .int .i64 k ∧ Hid (Below w3.heap.size w3 wr)) (fun i _ => m - (intOf i).toNat)
    case atStart => exact ⟨0, Nat.zero_le _, rfl, Below.refl _ _⟩
    case round =>
      obtain ⟨k, hk, rfl, HB⟩ := hrel
      by_cases hlt : k < m
      · have hlt' : (k : Int) < (m : Int) := by omega
        have hlt'' : (k : Int) < ((m : Nat) : Int) := by omega
        obtain ⟨b, off, cap, x, e, hx, _⟩ := EL2.out.at k (by rw [← HM.out]; exact hlt)
        simp only [Value.slice.injEq] at e
        obtain ⟨rfl, hq1, rfl⟩ := e
        clear hq1
        have HX : Hid (l[k]? = some x) := hx
        have CF : Hid (∀ W : World, Below w3.heap.size w3 W → W.cell? ⟨b, off + k * 4, none⟩ = some (.string x.key) ∧ W.cell? ⟨b, off + k * 4 + 1, none⟩ = some (.int .i64 x.seq) ∧ W.cell? ⟨b, off + k * 4 + 2, none⟩ = some (.int .i64 x.kind) ∧ W.cell? ⟨b, off + k * 4 + 3, none⟩ = some (.string x.val)) := fun W h => by
          obtain ⟨b', off', cap', x', e', hx', q0, q1, q2, q3⟩ := (EL2.out.up h).at k (by rw [← HM.out]; exact hlt)
          simp only [Value.slice.injEq, Option.some.injEq, Addr.mk.injEq] at e'
          obtain ⟨⟨rfl, rfl, _⟩, _, _⟩ := e'
          rw [hx] at hx'
          injection hx' with hx'
          subst hx'
          exact ⟨q0, q1, q2, q3⟩
        obtain ⟨hs1, hs2⟩ := HMA.out x (List.mem_of_getElem? hx)
        have hsw : IntKind.i64.wrap (x.seq - 1) = x.seq - 1 := by rw [IntKind.wrap_i64]; omega
        have G1 : Hid (∀ wr : World, Below w3.heap.size w3 wr → Calls Try.prog 14 #[.slice xa xn xc, .string x.key, .int .i64 x.seq] (wr.alloc (.cells #[.string ⟨#[]⟩, .int .i64 0, .int .i64 0, .string ⟨#[]⟩] 39)).drew fun e w' => e = .returned (.tuple #[.agg #[.string x.key, .int .i64 x.seq, .int .i64 x.kind, .string x.val], .bool true, .int .i64 0]) ∧ Hid (Below w3.heap.size w3 w') ∧ w'.cell? ⟨b, off + k * 4, none⟩ = some (.string x.key) ∧ w'.cell? ⟨b, off + k * 4 + 1, none⟩ = some (.int .i64 x.seq) ∧ w'.cell? ⟨wr.heap.size, 0, none⟩ = some (.string ⟨#[]⟩) ∧ w'.cell? ⟨wr.heap.size, 1, none⟩ = some (.int .i64 0) ∧ w'.cell? ⟨wr.heap.size, 2, none⟩ = some (.int .i64 0) ∧ w'.cell? ⟨wr.heap.size, 3, none⟩ = some (.string ⟨#[]⟩) ∧ (∀ j, w'.frozen? ⟨wr.heap.size, j, none⟩ = false) ∧ Hid (w'.heap[wr.heap.size]? = some (.cells #[.string ⟨#[]⟩, .int .i64 0, .int .i64 0, .string ⟨#[]⟩] 39))) := fun wr hwr => by
          have u := up_trans hwr (up_dr (up_al (Below.refl wr.heap.size wr) (.cells #[.string ⟨#[]⟩, .int .i64 0, .int .i64 0, .string ⟨#[]⟩] 39)))
          have h1 := HG.out x.key (x.seq) _ u
          rw [firstV_at HPW.out hx] at h1
          refine h1.mono ?_
          rintro e w' ⟨rfl, hb, hb2⟩
          have hz := blk_up (blk_up (blk_new wr (.cells #[.string ⟨#[]⟩, .int .i64 0, .int .i64 0, .string ⟨#[]⟩] 39)) (up_dr (Below.refl _ _))) hb2
          exact ⟨rfl, hb, (CF.out _ hb).1, (CF.out _ hb).2.1, blk_cell hz 0 _ rfl, blk_cell hz 1 _ rfl, blk_cell hz 2 _ rfl, blk_cell hz 3 _ rfl, fun j => blk_frozen hz j, hz⟩
        have G2 : Hid (∀ (y : En) (bb : Bool), firstV l x.key (x.seq - 1) = (y, bb) → ∀ wr : World, Below w3.heap.size w3 wr → Calls Try.prog 14 #[.slice xa xn xc, .string x.key, .int .i64 (x.seq - 1)] (wr.alloc (.cells #[.string ⟨#[]⟩, .int .i64 0, .int .i64 0, .string ⟨#[]⟩] 39)).drew fun e w' => e = .returned (.tuple #[.agg #[.string y.key, .int .i64 y.seq, .int .i64 y.kind, .string y.val], .bool bb, .int .i64 0]) ∧ Hid (Below w3.heap.size w3 w') ∧ w'.cell? ⟨b, off + k * 4, none⟩ = some (.string x.key) ∧ w'.cell? ⟨b, off + k * 4 + 1, none⟩ = some (.int .i64 x.seq) ∧ w'.cell? ⟨wr.heap.size, 0, none⟩ = some (.string ⟨#[]⟩) ∧ w'.cell? ⟨wr.heap.size, 1, none⟩ = some (.int .i64 0) ∧ w'.cell? ⟨wr.heap.size, 2, none⟩ = some (.int .i64 0) ∧ w'.cell? ⟨wr.heap.size, 3, none⟩ = some (.string ⟨#[]⟩) ∧ (∀ j, w'.frozen? ⟨wr.heap.size, j, none⟩ = false) ∧ Hid (w'.heap[wr.heap.size]? = some (.cells #[.string ⟨#[]⟩, .int .i64 0, .int .i64 0, .string ⟨#[]⟩] 39))) := fun y bb hy wr hwr => by
          have u := up_trans hwr (up_dr (up_al (Below.refl wr.heap.size wr) (.cells #[.string ⟨#[]⟩, .int .i64 0, .int .i64 0, .string ⟨#[]⟩] 39)))
          have h1 := HG.out x.key (x.seq - 1) _ u
          rw [hy] at h1
          refine h1.mono ?_
          rintro e w' ⟨rfl, hb, hb2⟩
          have hz := blk_up (blk_up (blk_new wr (.cells #[.string ⟨#[]⟩, .int .i64 0, .int .i64 0, .string ⟨#[]⟩] 39)) (up_dr (Below.refl _ _))) hb2
          exact ⟨rfl, hb, (CF.out _ hb).1, (CF.out _ hb).2.1, blk_cell hz 0 _ rfl, blk_cell hz 1 _ rfl, blk_cell hz 2 _ rfl, blk_cell hz 3 _ rfl, fun j => blk_frozen hz j, hz⟩
        have D1 : Hid (∀ W : World, Below w3.heap.size w3 W → Calls Try.prog 14 #[.slice xa xn xc, .string x.key, .int .i64 x.seq] W fun e w' => e = .returned (.tuple #[.agg #[.string x.key, .int .i64 x.seq, .int .i64 x.kind, .string x.val], .bool true, .int .i64 0]) ∧ Hid (Below w3.heap.size w3 w') ∧ w'.cell? ⟨b, off + k * 4, none⟩ = some (.string x.key) ∧ w'.cell? ⟨b, off + k * 4 + 1, none⟩ = some (.int .i64 x.seq) ∧ Hid (∀ o, (w'.alloc o).cell? ⟨b, off + k * 4, none⟩ = some (.string x.key) ∧ (w'.alloc o).cell? ⟨b, off + k * 4 + 1, none⟩ = some (.int .i64 x.seq))) := fun W h => by
          have h1 := HG.out x.key x.seq W h
          rw [firstV_at HPW.out hx] at h1
          refine h1.mono ?_
          rintro e w' ⟨rfl, hb, _⟩
          exact ⟨rfl, hb, (CF.out _ hb).1, (CF.out _ hb).2.1, fun o => ⟨(CF.out _ (up_al hb o)).1, (CF.out _ (up_al hb o)).2.1⟩⟩
        have D2 : Hid (∀ (y : En) (bb : Bool), firstV l x.key (x.seq - 1) = (y, bb) → ∀ W : World, Below w3.heap.size w3 W → Calls Try.prog 14 #[.slice xa xn xc, .string x.key, .int .i64 (x.seq - 1)] W fun e w' => e = .returned (.tuple #[.agg #[.string y.key, .int .i64 y.seq, .int .i64 y.kind, .string y.val], .bool bb, .int .i64 0]) ∧ Hid (Below w3.heap.size w3 w') ∧ w'.cell? ⟨b, off + k * 4, none⟩ = some (.string x.key) ∧ w'.cell? ⟨b, off + k * 4 + 1, none⟩ = some (.int .i64 x.seq) ∧ Hid (∀ o, (w'.alloc o).cell? ⟨b, off + k * 4, none⟩ = some (.string x.key) ∧ (w'.alloc o).cell? ⟨b, off + k * 4 + 1, none⟩ = some (.int .i64 x.seq))) := fun y bb hy W h => by
          have h1 := HG.out x.key (x.seq - 1) W h
          rw [hy] at h1
          refine h1.mono ?_
          rintro e w' ⟨rfl, hb, _⟩
          exact ⟨rfl, hb, (CF.out _ hb).1, (CF.out _ hb).2.1, fun o => ⟨(CF.out _ (up_al hb o)).1, (CF.out _ (up_al hb o)).2.1⟩⟩
        have u0d : Below w3.heap.size w3 wr.drew := up_trans HB.out (up_dr (Below.refl _ _))
        have u0a : ∀ o, Below w3.heap.size w3 (wr.alloc o).drew := fun o => up_trans HB.out (up_dr (up_al (Below.refl _ _) o))
        have pq : Hid (∀ o, (wr.alloc o).drew.cell? ⟨b, off + k * 4, none⟩ = some (.string x.key) ∧ (wr.alloc o).drew.cell? ⟨b, off + k * 4 + 1, none⟩ = some (.int .i64 x.seq)) := fun o => ⟨(CF.out _ (u0a o)).1, (CF.out _ (u0a o)).2.1⟩
        obtain ⟨y0, y1, _, _⟩ := CF.out _ u0d
        obtain ⟨z0, z1, _, _⟩ := CF.out _ HB.out
        clear hx
        have hbl : b < wr.heap.size := World.block_lt_of_cell? wr _ z0
        have hbn : ¬ b = wr.heap.size := by omega
        have hbn' : ¬ wr.heap.size = b := by omega
        go_wp2_with fail
        go_cut [6, 7, 8] from 37 to 53 (fun s6 s7 s8 wx => ∃ N5 : Nat, s6 = .pointer (some ⟨N5, 0, none⟩) ∧ s7 = .bool true ∧ s8 = .int .i64 0 ∧ Hid (wx.heap[N5]? = some (.cells #[.string x.key, .int .i64 x.seq, .int .i64 x.kind, .string x.val] 39)) ∧ Hid (Below w3.heap.size w3 wx))
        case first =>
          go_region_held3 (fun w' => w'.cell? ⟨b, off + k * 4, none⟩ = some (.string x.key) ∧ w'.cell? ⟨b, off + k * 4 + 1, none⟩ = some (.int .i64 x.seq)) (first | with_reducible exact ⟨p0, p1⟩ | with_reducible exact ⟨y0, y1⟩ | with_reducible exact ⟨z0, z1⟩ | with_reducible exact pq.out _ | with_reducible exact pp.out _ | (simp [go_sem, p0, p1, hbn, hbn']; done)) (first
            | (go_at_call 14; with_reducible refine (D1.out _ u0d).mono ?_; rintro e w4 ⟨rfl, u4, p0, p1, pp⟩)
            | (go_at_call 14; with_reducible refine (G1.out _ HB.out).mono ?_; rintro e w4 ⟨rfl, u4, p0, p1, r0, r1, r2, r3, fr, HZ⟩))
          · have BX : Hid ((w4.alloc (.cells #[.string x.key, .int .i64 x.seq, .int .i64 x.kind, .string x.val] 39)).heap[w4.heap.size]? = some (.cells #[.string x.key, .int .i64 x.seq, .int .i64 x.kind, .string x.val] 39)) := blk_new _ _
            have UX : Hid (Below w3.heap.size w3 (w4.alloc (.cells #[.string x.key, .int .i64 x.seq, .int .i64 x.kind, .string x.val] 39))) := up_al u4.out _
            go_wp2_with fail
            go_meet
            case rel => exact ⟨_, rfl, rfl, rfl, BX, UX⟩
          · have BX : Hid (((((w4.setCell ⟨wr.heap.size, 0, none⟩ (.string x.key)).setCell ⟨wr.heap.size, 1, none⟩ (.int .i64 x.seq)).setCell ⟨wr.heap.size, 2, none⟩ (.int .i64 x.kind)).setCell ⟨wr.heap.size, 3, none⟩ (.string x.val)).heap[wr.heap.size]? = some (.cells #[.string x.key, .int .i64 x.seq, .int .i64 x.kind, .string x.val] 39)) := set4_blk HZ.out _ _ _ _
            have UX : Hid (Below w3.heap.size w3 ((((w4.setCell ⟨wr.heap.size, 0, none⟩ (.string x.key)).setCell ⟨wr.heap.size, 1, none⟩ (.int .i64 x.seq)).setCell ⟨wr.heap.size, 2, none⟩ (.int .i64 x.kind)).setCell ⟨wr.heap.size, 3, none⟩ (.string x.val))) := u4.out.grown (set4_grown w4 wr.heap.size _ _ _ _) u4.out.size (fun j hj => by injection hj with hj; have := HB.out.size; omega)
            go_wp2_with fail
            go_meet
            case rel => exact ⟨_, rfl, rfl, rfl, BX, UX⟩
        case rest =>
          obtain ⟨N5, rfl, rfl, rfl, BX, UX⟩ := hcut
          clear y0 y1 z0 z1 pq u0a u0d hbn hbn' hbl
          obtain ⟨m0, m1, m2, m3⟩ := CF.out _ UX.out
          have c0 := blk_cell BX.out 0 _ rfl
          have c1 := blk_cell BX.out 1 _ rfl
          have c2 := blk_cell BX.out 2 _ rfl
          have c3 := blk_cell BX.out 3 _ rfl
          go_wp2_with fail
          go_quiet ((go_at_call 9; exact Calls.quiet_of_same (HN.out _ _)))
          have UR : Hid (Below w3.heap.size w3 (wc.drewN nq)) := up_trans UX.out (up_drewN _ _)
          clear c0 c1 c2 c3 m0 m1 m2 m3 BX UX G1 D1
          generalize wc.drewN nq = W6 at *
          have u0d : Below w3.heap.size w3 W6.drew := up_trans UR.out (up_dr (Below.refl _ _))
          have u0a : ∀ o, Below w3.heap.size w3 (W6.alloc o).drew := fun o => up_trans UR.out (up_dr (up_al (Below.refl _ _) o))
          have pq : Hid (∀ o, (W6.alloc o).drew.cell? ⟨b, off + k * 4, none⟩ = some (.string x.key) ∧ (W6.alloc o).drew.cell? ⟨b, off + k * 4 + 1, none⟩ = some (.int .i64 x.seq)) := fun o => ⟨(CF.out _ (u0a o)).1, (CF.out _ (u0a o)).2.1⟩
          obtain ⟨y0, y1, _, _⟩ := CF.out _ u0d
          obtain ⟨z0, z1, _, _⟩ := CF.out _ UR.out
          have hbl : b < W6.heap.size := World.block_lt_of_cell? W6 _ z0
          have hbn : ¬ b = W6.heap.size := by omega
          have hbn' : ¬ W6.heap.size = b := by omega
          obtain ⟨y, bb, hyb⟩ : ∃ y bb, firstV l x.key (x.seq - 1) = (y, bb) := ⟨_, _, rfl⟩
          have HYB : Hid (firstV l x.key (x.seq - 1) = (y, bb)) := hyb
          have GA := hid (G2.out _ _ hyb)
          have DA := hid (D2.out _ _ hyb)
          clear hyb G2 D2
          go_wp2_with fail
          go_cut [9, 10, 11] from 68 to 85 (fun s6 s7 s8 wx => ∃ N6 : Nat, s6 = .pointer (some ⟨N6, 0, none⟩) ∧ s7 = .bool bb ∧ s8 = .int .i64 0 ∧ Hid (wx.heap[N6]? = some (.cells #[.string y.key, .int .i64 y.seq, .int .i64 y.kind, .string y.val] 39)) ∧ Hid (Below w3.heap.size w3 wx))
          case first =>
            go_region_held3 (fun w' => w'.cell? ⟨b, off + k * 4, none⟩ = some (.string x.key) ∧ w'.cell? ⟨b, off + k * 4 + 1, none⟩ = some (.int .i64 x.seq)) (first | with_reducible exact ⟨p0, p1⟩ | with_reducible exact ⟨y0, y1⟩ | with_reducible exact ⟨z0, z1⟩ | with_reducible exact pq.out _ | with_reducible exact pp.out _ | (simp [go_sem, p0, p1, hbn, hbn']; done)) (first
              | (go_at_call 14; with_reducible refine (DA.out _ u0d).mono ?_; rintro e w4 ⟨rfl, u4, p0, p1, pp⟩)
              | (go_at_call 14; with_reducible refine (GA.out _ UR.out).mono ?_; rintro e w4 ⟨rfl, u4, p0, p1, r0, r1, r2, r3, fr, HZ⟩))
            · have BX : Hid ((w4.alloc (.cells #[.string y.key, .int .i64 y.seq, .int .i64 y.kind, .string y.val] 39)).heap[w4.heap.size]? = some (.cells #[.string y.key, .int .i64 y.seq, .int .i64 y.kind, .string y.val] 39)) := blk_new _ _
              have UX : Hid (Below w3.heap.size w3 (w4.alloc (.cells #[.string y.key, .int .i64 y.seq, .int .i64 y.kind, .string y.val] 39))) := up_al u4.out _
              go_wp2_with fail
              go_meet
              case rel => exact ⟨_, rfl, rfl, rfl, BX, UX⟩
            · have BX : Hid (((((w4.setCell ⟨W6.heap.size, 0, none⟩ (.string y.key)).setCell ⟨W6.heap.size, 1, none⟩ (.int .i64 y.seq)).setCell ⟨W6.heap.size, 2, none⟩ (.int .i64 y.kind)).setCell ⟨W6.heap.size, 3, none⟩ (.string y.val)).heap[W6.heap.size]? = some (.cells #[.string y.key, .int .i64 y.seq, .int .i64 y.kind, .string y.val] 39)) := set4_blk HZ.out _ _ _ _
              have UX : Hid (Below w3.heap.size w3 ((((w4.setCell ⟨W6.heap.size, 0, none⟩ (.string y.key)).setCell ⟨W6.heap.size, 1, none⟩ (.int .i64 y.seq)).setCell ⟨W6.heap.size, 2, none⟩ (.int .i64 y.kind)).setCell ⟨W6.heap.size, 3, none⟩ (.string y.val))) := u4.out.grown (set4_grown w4 W6.heap.size _ _ _ _) u4.out.size (fun j hj => by injection hj with hj; have := UR.out.size; omega)
              go_wp2_with fail
              go_meet
              case rel => exact ⟨_, rfl, rfl, rfl, BX, UX⟩
          case rest =>
            obtain ⟨N6, rfl, rfl, rfl, BX, UX⟩ := hcut
            clear y0 y1 z0 z1 pq u0a u0d hbn hbn' hbl GA DA
            have hkw : IntKind.i64.wrap ((m : Int) - 1) = (m : Int) - 1 := by rw [IntKind.wrap_i64]; omega
            obtain ⟨m0, m1, m2, m3⟩ := CF.out _ UX.out
            have hML : Hid (m = l.length) := HM.out
            by_cases hla : k + 1 = m
            · have hb0 : bb = false := by
                have := HYB.out
                rw [firstV_none HPW.out HX.out (fun z hz => by
                  have h1 := (List.getElem?_eq_some_iff.1 hz).1
                  have h2 := hML.out
                  omega)] at this
                exact (Prod.mk.inj this).2.symm
              subst hb0
              have hkb : ((k : Int) == (m : Int) - 1) = true := by rw [beq_iff_eq]; omega
              go_wp2_with fail
              go_quiet (fail)
              have U7 : Hid (Below w3.heap.size w3 (wc.drewN nq)) := up_trans UX.out (up_drewN _ _)
              clear m0 m1 m2 m3 BX UX
              generalize wc.drewN nq = W7 at *
              go_wp2_with fail
              go_quiet ((go_at_call 9; exact Calls.quiet_of_same (HN.out _ _)))
              go_wp2_with fail
              exact ⟨⟨k + 1, by omega, by go_num, up_trans U7.out (up_drewN _ _)⟩, by simp [intOf]; omega⟩
            · have hkb : ((k : Int) == (m : Int) - 1) = false := by rw [beq_eq_false_iff_ne]; omega
              have hke : ¬ (k : Int) = (m : Int) - 1 := by omega
              obtain ⟨j, hj⟩ : ∃ j, j = k + 1 := ⟨_, rfl⟩
              obtain ⟨b2, off2, cap2, z, e2, hz, _⟩ := EL2.out.at j (by rw [← HM.out]; omega)
              simp only [Value.slice.injEq, Option.some.injEq, Addr.mk.injEq] at e2
              obtain ⟨⟨rfl, rfl, _⟩, emm, rfl⟩ := e2
              clear emm
              have CG : Hid (∀ W : World, Below w3.heap.size w3 W → W.cell? ⟨b, off + j * 4, none⟩ = some (.string z.key) ∧ W.cell? ⟨b, off + j * 4 + 1, none⟩ = some (.int .i64 z.seq) ∧ W.cell? ⟨b, off + j * 4 + 2, none⟩ = some (.int .i64 z.kind) ∧ W.cell? ⟨b, off + j * 4 + 3, none⟩ = some (.string z.val)) := fun W h => by
                obtain ⟨b', off', cap', x', e', hx', q0, q1, q2, q3⟩ := (EL2.out.up h).at j (by rw [← HM.out]; omega)
                simp only [Value.slice.injEq, Option.some.injEq, Addr.mk.injEq] at e'
                obtain ⟨⟨rfl, rfl, _⟩, _, _⟩ := e'
                rw [hz] at hx'
                injection hx' with hx'
                subst hx'
                exact ⟨q0, q1, q2, q3⟩
              have hz' : l[k + 1]? = some z := by rw [← hj]; exact hz
              have hjj : (k : Int) + 1 = (j : Int) := by omega
              have hwj : IntKind.i64.wrap (j : Int) = (j : Int) := by rw [IntKind.wrap_i64]; omega
              have hjl : (j : Int) < (m : Int) := by omega
              have hj0 : (0 : Int) ≤ (j : Int) := by omega
              obtain ⟨n0, n1, n2, n3⟩ := CG.out _ UX.out
              by_cases hyk : z.key.toList = x.key.toList
              · have hfy := firstV_next HPW.out HX.out hz' hyk
                have hyz : y = z ∧ bb = true := by
                  have := HYB.out
                  rw [hfy] at this
                  exact ⟨(Prod.mk.inj this).1.symm, (Prod.mk.inj this).2.symm⟩
                obtain ⟨rfl, rfl⟩ := hyz
                have kb : (y.key.toList == x.key.toList) = true := by rw [beq_iff_eq]; exact hyk
                clear hj hz hz' hfy hyk
                go_wp2_with fail
                go_quiet (fail)
                have U7 : Hid (Below w3.heap.size w3 (wc.drewN nq)) := up_trans UX.out (up_drewN _ _)
                have B7 : Hid ((wc.drewN nq).heap[N6]? = some (.cells #[.string y.key, .int .i64 y.seq, .int .i64 y.kind, .string y.val] 39)) := blk_up BX.out (up_drewN _ _)
                clear m0 m1 m2 m3 n0 n1 n2 n3 BX UX
                generalize wc.drewN nq = W7 at *
                obtain ⟨n0, n1, n2, n3⟩ := CG.out _ U7.out
                have c0 := blk_cell B7.out 0 _ rfl
                have c1 := blk_cell B7.out 1 _ rfl
                have c2 := blk_cell B7.out 2 _ rfl
                have c3 := blk_cell B7.out 3 _ rfl
                go_wp2_with fail
                go_quiet ((go_at_call 9; exact Calls.quiet_of_same (HN.out _ _)))
                go_wp2_with fail
                exact ⟨⟨k + 1, by omega, by go_num, up_trans U7.out (up_drewN _ _)⟩, by simp [intOf]; omega⟩
              · have hb0 : bb = false := by
                  have := HYB.out
                  rw [firstV_none HPW.out HX.out (fun q hq => by
                    rw [hz'] at hq
                    injection hq with hq
                    subst hq
                    exact hyk)] at this
                  exact (Prod.mk.inj this).2.symm
                subst hb0
                have kb : (z.key.toList == x.key.toList) = false := by rw [beq_eq_false_iff_ne]; exact hyk
                clear hj hz hz' hyk
                go_wp2_with fail
                go_quiet (fail)
                have U7 : Hid (Below w3.heap.size w3 (wc.drewN nq)) := up_trans UX.out (up_drewN _ _)
                clear m0 m1 m2 m3 n0 n1 n2 n3 BX UX
                generalize wc.drewN nq = W7 at *
                go_wp2_with fail
                go_quiet ((go_at_call 9; exact Calls.quiet_of_same (HN.out _ _)))
                go_wp2_with fail
                exact ⟨⟨k + 1, by omega, by go_num, up_trans U7.out (up_drewN _ _)⟩, by simp [intOf]; omega⟩
      · have hlt' : ¬ (k : Int) < (m : Int) := by omega
        go_wp2
        go_ret
        exact ⟨rfl, up_trans U2.out HB.out⟩
  · have HZ : Hid (xn = 0) := by
      have := hxn.out
      rw [buildB_none hp] at this
      exact this
    obtain rfl : xn = 0 := HZ.out
    clear hxn OX HZ
    generalize (buildB l).2 = q at *
    have hq1 : (q == 0) = false := by simp [hp]
    have hq2 : (q != 0) = true := by simp [hp]
    go_wp2_with fail
    refine (HN.out _ _).mono ?_
    rintro e w3 ⟨rfl, rfl⟩
    go_wp2
    go_ret
    exact ⟨rfl, U2.out⟩
end Go.Proofs.Ytekoniaobmapdaa
