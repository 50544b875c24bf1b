/- The texts TLaw, TOf, TGMath, in this order. -/
import Derived.Test.YtekoniaobmapdaaG32
import Derived.Test.YtekoniaobmapdaaG11
import Derived.Test.YtekoniaobmapdaaBHas
import Derived.Test.YtekoniaobmapdaaG10

/- What is wanted of the program's calls of layer 10, as the laws' walks want it; TableRot walked upon it. -/
namespace Go.Proofs.Ytekoniaobmapdaa
open Go.RowKit SumPlain
set_option linter.unusedVariables false
set_option linter.unusedSimpArgs false

/-- What is wanted of the program's functions. -/
structure PgT : Prop where
  build : ∀ (l : List En) (v : Value) (W : World), EntsR W v l → Calls Try.prog 8 #[v] W fun e w' => ∃ a n c, e = .returned (.tuple #[.slice a n c, .int .i64 (buildB l).2]) ∧ Hid (n = (buildB l).1.length) ∧ Hid (OwnB w' W.heap.size (.slice a n c) (buildB l).1) ∧ Hid (Below W.heap.size W w')
  opn : ∀ (B : List Int) (a : Option Addr) (n c : Nat) (W : World), n = B.length → Octs W (.slice a n c) B → n ≤ 140737488351232 → Calls Try.prog 10 #[.slice a n c] W fun e w' => OpE (openB B) W e w'
  get : ∀ (B : List Int) (a : Option Addr) (n c : Nat) (key : ByteArray) (seq : Int) (W : World), n = B.length → Octs W (.slice a n c) B → n ≤ 140737488351232 → Calls Try.prog 14 #[.slice a n c, .string key, .int .i64 seq] W fun e w' => e = .returned (.tuple #[enV (getT B key seq).1, .bool (getT B key seq).2.1, .int .i64 (getT B key seq).2.2]) ∧ Hid (Below W.heap.size W w')
  alive : ∀ (W : World), Calls Try.prog 7 #[] W fun e w' => e = .returned (.bool true) ∧ Hid (Below W.heap.size W w')

/-- What is wanted of Between. -/
structure PgB : Prop where
  between : ∀ (l : List En) (a : Option Addr) (c : Nat) (k : Int) (fa : Option Addr) (fn fc : Nat) (f t : ByteArray) (W : World), EntsR W (.slice a l.length c) l → l.length ≤ 4398046511104 → Calls Try.prog 15 #[.agg #[.slice a l.length c, .int .i64 k, .slice fa fn fc], .string f, .string t] W fun e w' => ∃ ea en ec, e = .returned (.tuple #[.slice ea en ec, .int .i64 (betP l f t).2]) ∧ Hid (en = (betP l f t).1.length) ∧ Hid (OwnR w' W.heap.size 39 4 (.slice ea en ec) ((betP l f t).1.map enRow)) ∧ Hid (Below W.heap.size W w')

theorem num_any (x : Int) (W : World) : Calls Try.prog 9 #[.int .i64 x] W fun e w' => e = .returned (.int .i64 x) ∧ w' = W := by
  go_enter Try.func9, Try.ntmps9
  go_wp2
  go_ret
  exact ⟨rfl, rfl⟩

theorem sameB_law (l : List Int) (v1 v2 : Value) (W : World) (h1 : Octs W v1 l) (h2 : Octs W v2 l) : Calls Try.prog 13 #[v1, v2] W fun e w' => e = .returned (.bool true) ∧ w' = W := by
  refine (same_any l l _ _ W h1 h2).mono ?_
  rintro e w' ⟨rfl, hb⟩
  exact ⟨by simp, hb⟩

theorem buildB_zero {l : List En} : (buildB l).2 = 0 ↔ chkT l = 0 := by
  unfold buildB
  by_cases h : chkT l = 0
  · rw [if_pos h]; simp [h]
  · rw [if_neg h]
theorem buildB_none {l : List En} (h : (buildB l).2 ≠ 0) : (buildB l).1 = [] := by
  have h' : ¬ chkT l = 0 := fun e => h (buildB_zero.2 e)
  unfold buildB
  rw [if_neg h']
theorem buildB_good {l : List En} (h : chkT l = 0) : buildB l = (tabO l, 0) := by unfold buildB; rw [if_pos h]
theorem buildB_oct (l : List En) : ∀ x ∈ (buildB l).1, 0 ≤ x ∧ x ≤ 255 := by
  unfold buildB
  by_cases h : chkT l = 0
  · rw [if_pos h]; exact tab_oct h
  · rw [if_neg h]; simp
theorem tab_le {l : List En} (h : chkT l = 0) : 20 ≤ (tabO l).length ∧ (tabO l).length ≤ 20000000 := by
  have h1 := at_len h
  have h2 := fr2_len h
  have h3 := (fr3_oct h).2
  have h4 := foot_len (atT l) (toT l) l.length
  have h5 : (fr3 l).length ≤ 8300 := by
    unfold fr3
    rw [frame_len]
    have := octets_len (((encL (filT l).1 (filT l).2).length : Nat) : Int) (by omega) (by omega)
    omega
  have h6 : atT l = (blkT l (manyT l)).length := rfl
  unfold tabO
  simp only [List.length_append]
  omega
theorem buildB_len (l : List En) : (buildB l).1.length ≤ 20000000 := by
  by_cases h : chkT l = 0
  · rw [buildB_good h]; exact (tab_le h).2
  · rw [buildB_none (fun e => h (buildB_zero.1 e))]; simp

theorem rot_at (at' : Int) (n : Nat) (hn : 0 < n) : -(n : Int) < at'.tmod n ∧ at'.tmod n < (n : Int) ∧ ∃ p : Nat, p < n ∧ (at'.tmod n + (n : Int)).tmod n = (p : Int) := by
  have h1 : -(n : Int) < at'.tmod n := by
    by_cases h : 0 ≤ at'
    · have := Int.tmod_nonneg (n : Int) h
      omega
    · have e : at'.tmod n = -((-at').tmod n) := by rw [Int.neg_tmod]; simp
      have := Int.tmod_lt_of_pos (-at') (b := (n : Int)) (by omega)
      omega
  have h2 : at'.tmod n < (n : Int) := Int.tmod_lt_of_pos at' (by omega)
  refine ⟨h1, h2, ?_⟩
  generalize at'.tmod n = r at *
  have e : (r + (n : Int)).tmod n = (r + (n : Int)) % n := Int.tmod_eq_emod_of_nonneg (by omega)
  have h3 := Int.emod_nonneg (r + (n : Int)) (b := (n : Int)) (by omega)
  have h4 := Int.emod_lt_of_pos (r + (n : Int)) (b := (n : Int)) (by omega)
  exact ⟨((r + (n : Int)) % n).toNat, by omega, by rw [e]; omega⟩
theorem wrap64_any (n : Int) (h0 : -9223372036854775808 ≤ n) (h1 : n ≤ 9223372036854775807) : IntKind.i64.wrap n = n := by
  simp [IntKind.wrap, IntKind.bits, IntKind.signed]; omega

set_option maxHeartbeats 4000000 in
set_option maxRecDepth 20000 in
theorem rot_walk (P : PgT) (l : List En) (vl : Value) (at' z : Int) (w : World) (hl : EntsR w vl l) (hz0 : 0 ≤ z) (hz1 : z ≤ 255) :
    Calls Try.prog 4 #[vl, .int .i64 at', .int .u8 z] w fun e w' => e = .returned (.bool true) ∧ Below w.heap.size w w' := by
  have HL : Hid (EntsR w vl l) := hl
  have HP : Hid PgT := P
  have HN : Hid (∀ (x : Int) (W : World), Calls Try.prog 9 #[.int .i64 x] W fun e w' => e = .returned (.int .i64 x) ∧ w' = W) := num_any
  clear hl P
  go_enter Try.func4, Try.ntmps4
  go_wp2_with fail
  refine (HP.out.alive _).mono ?_
  rintro e w1 ⟨rfl, b1⟩
  go_wp2_with fail
  refine (HP.out.build l _ _ (HL.out.up b1.out)).mono ?_
  rintro e w2 ⟨xa, xn, xc, rfl, hxn, OX, b2⟩
  have U1 : Hid (Below w.heap.size w w1) := b1
  have U2 : Hid (Below w.heap.size w w2) := up_trans b1.out b2.out
  clear b1 b2
  by_cases hp : (buildB l).2 = 0
  · rw [hp]
    by_cases hz : z = 0
    · subst hz
      go_wp2_with fail
      refine (HN.out _ _).mono ?_
      rintro e w3 ⟨rfl, rfl⟩
      go_wp2_with fail
      refine (HN.out _ _).mono ?_
      rintro e w4 ⟨rfl, rfl⟩
      go_wp2
      go_ret
      exact ⟨rfl, U2.out⟩
    · have hz2 : (z == 0) = false := by simp [hz]
      have hz3 : (z != 0) = true := by simp [hz]
      have hc := buildB_zero.1 hp
      have hE := buildB_oct l
      have hEl := buildB_len l
      rw [buildB_good hc] at hxn OX hE hEl
      have hpos := (tab_le hc).1
      have HRD : Hid (∀ p : Nat, p < (tabO l).length → openB ((tabO l).set p (bits .xor .u8 ((tabO l).getD p 0) z)) = ([], (0, []), 21)) := fun p h => rot_tab hc h (by omega) hz1
      clear hc hp
      generalize tabO l = E at *
      have hxn' : xn = E.length := hxn.out
      have hEl' : E.length ≤ 20000000 := hEl
      obtain ⟨m1, m2, p, hpn, hpe⟩ := rot_at at' xn (by omega)
      obtain ⟨r, hr⟩ : ∃ r, at'.tmod xn = r := ⟨_, rfl⟩
      rw [hr] at m1 m2 hpe
      have hw1 : IntKind.i64.wrap r = r := wrap64_any _ (by omega) (by omega)
      have hw2 : IntKind.i64.wrap (r + (xn : Int)) = r + (xn : Int) := wrap64_any _ (by omega) (by omega)
      have hw3 : IntKind.i64.wrap (p : Int) = (p : Int) := wrap64_any _ (by omega) (by omega)
      have hx0 : ¬ (xn : Int) = 0 := by omega
      have hx1 : ((xn : Int) == 0) = false := by simp; omega
      have hpl : (p : Int) < (xn : Int) := by omega
      have hp0 : 0 ≤ (p : Int) := by omega
      obtain ⟨g, rfl⟩ : ∃ g, xa = some ⟨g, 0, none⟩ := by
        obtain ⟨_, h⟩ := OX.out
        rcases h with ⟨e, h0⟩ | ⟨g, c2, cur, e, _⟩
        · simp at h0
          rw [h0] at hpos; simp at hpos
        · simp at e
          exact ⟨g, e.1⟩
      have ho : OwnB w2 w1.heap.size (.slice (some ⟨g, 0, none⟩) xn xc) E := OX.out
      unfold OwnB at ho
      rw [← hxn'] at ho
      have hc0 := ho.cellAt p (by omega)
      have hf0 := ho.frozenAt p
      obtain ⟨y, hy⟩ : ∃ y, E[p]? = some y := ⟨_, List.getElem?_eq_getElem (by omega)⟩
      rw [List.getElem?_map, hy] at hc0
      simp only [Option.map_some] at hc0
      have hyE : E.getD p 0 = y := by simp [List.getD, hy]
      have hyo := hE y (List.mem_of_getElem? hy)
      have HS : Hid (Octs (w2.setCell ⟨g, p, none⟩ (.int .u8 (bits .xor .u8 y z))) (.slice (some ⟨g, 0, none⟩) xn xc) (E.set p (bits .xor .u8 y z)) ∧ Below w.heap.size w (w2.setCell ⟨g, p, none⟩ (.int .u8 (bits .xor .u8 y z)))) := by
        have hst := ho.stored p (.int .u8 (bits .xor .u8 y z))
        refine ⟨Octs.own (base := w1.heap.size) ?_ ?_, U2.out.grown (grown_set _ _ _) U2.out.size (fun k hk => ?_)⟩
        · unfold OwnB
          rw [List.length_set, ← hxn', List.map_set]
          exact hst.1
        · intro x hx
          rcases List.mem_or_eq_of_mem_set hx with h1 | h1
          · exact hE x h1
          · rw [h1]; exact (xor8 y z hyo.1 hyo.2 hz0 hz1).2
        · simp at hk
          have h1 := (ho.lt g (by simp [Value.ownBlock])).1
          have h2 := U1.out.size
          omega
      have HDD : Hid (openB (E.set p (bits .xor .u8 y z)) = ([], (0, []), 21)) := by
        have := HRD.out p (by omega)
        rw [hyE] at this
        exact this
      have HLE : Hid (xn = (E.set p (bits .xor .u8 y z)).length) := by unfold Hid; rw [List.length_set]; omega
      have HXL : Hid (xn ≤ 140737488351232) := by unfold Hid; omega
      clear ho hy hyE hyo HRD hE hEl hpos hxn hxn' U2 OX
      go_wp2_with fail
      refine (HN.out _ _).mono ?_
      rintro e w3 ⟨rfl, rfl⟩
      go_wp2_with fail
      refine (HP.out.opn _ _ _ _ _ HLE.out HS.out.1 HXL.out).mono ?_
      intro e w5 hop
      rw [HDD.out] at hop
      obtain ⟨ya, yn, yc, fa, fn, fc, rfl, hy, hf, b5⟩ := hop
      have U5 : Hid (Below w.heap.size w w5) := up_trans HS.out.2 b5.out
      obtain rfl : yn = 0 := hy.out.1
      clear b5 hy hf HS HDD HLE hc0 hf0
      go_wp2_with fail
      refine (HN.out _ _).mono ?_
      rintro e w6 ⟨rfl, rfl⟩
      go_wp2
      go_ret
      exact ⟨rfl, up_al U5.out _⟩
  · have HZ : Hid (xn = 0) := by
      have := hxn.out
      rw [buildB_none hp] at this
      exact this
    obtain rfl : xn = 0 := HZ.out
    clear hxn OX HZ
    generalize (buildB l).2 = q at *
    have hq1 : (q == 0) = false := by simp [hp]
    have hq2 : (q != 0) = true := by simp [hp]
    go_wp2_with fail
    refine (HN.out _ _).mono ?_
    rintro e w3 ⟨rfl, rfl⟩
    go_wp2_with fail
    refine (HN.out _ _).mono ?_
    rintro e w4 ⟨rfl, rfl⟩
    go_wp2
    go_ret
    exact ⟨rfl, U2.out⟩
end Go.Proofs.Ytekoniaobmapdaa

/- The law's of and same of layer 10. -/
namespace Go.Proofs.Ytekoniaobmapdaa
open Go.RowKit SumPlain
set_option linter.unusedVariables false
set_option linter.unusedSimpArgs false

theorem results_tab1 {fn : Func} {q : Nat} (h : fn.results = #[.cell q 32]) (tmps : Array Value) (w : World) {N : Nat} {a b c : Value} (ht : tmps.getD q undef = .pointer (some ⟨N, 0, none⟩))
    (hc : w.heap[N]? = some (.cells #[a, b, c] 32)) : (results fn tmps).run Try.prog w = .ok (.agg #[a, b, c]) w := by
  have c0 := blk_cell hc 0 a rfl
  have c1 := blk_cell hc 1 b rfl
  have c2 := blk_cell hc 2 c rfl
  have ht' : tmps[q]?.getD undef = .pointer (some ⟨N, 0, none⟩) := by simpa using ht
  simp only [results, h]
  simp [ht', go_sem, c0, c1, c2]

set_option maxHeartbeats 4000000 in
set_option maxRecDepth 100000 in
theorem of_any (l : List En) (fb : List Int) (k : Int) (a : Option Addr) (n c : Nat) (fa : Option Addr) (fn fc : Nat) (w : World) (hn : n = l.length) (hv : EntsR w (.slice a n c) l) (hl : n ≤ 4398046511104) (hfn : fn = fb.length) (hf : Octs w (.slice fa fn fc) fb) (hfl : fn ≤ 140737488351232) :
    Calls Try.prog 16 #[.agg #[.slice a n c, .int .i64 k, .slice fa fn fc]] w fun e w' => ∃ ea ec ga gc, e = .returned (.agg #[.slice ea n ec, .int .i64 k, .slice ga fn gc]) ∧ Hid (EntsR w' (.slice ea n ec) l) ∧ Hid (Octs w' (.slice ga fn gc) fb) ∧ Hid (Below w.heap.size w w') := by
  obtain ⟨w0, hw0⟩ : ∃ w0, w0 = (w.alloc (.cells #[.slice a n c, .int .i64 k, .slice fa fn fc] 48)).alloc (.cells #[.slice none 0 0, .int .i64 0, .slice none 0 0] 32) := ⟨_, rfl⟩
  have HW0 : Hid ((w.alloc (.cells #[.slice a n c, .int .i64 k, .slice fa fn fc] 48)).alloc (.cells #[.slice none 0 0, .int .i64 0, .slice none 0 0] 32) = w0) := hw0.symm
  have B0 : Hid (w0.heap[w.heap.size]? = some (.cells #[.slice a n c, .int .i64 k, .slice fa fn fc] 48)) := by rw [hw0]; exact blk_up (blk_new _ _) (up_alloc _ _)
  have B1 : Hid (w0.heap[w.heap.size + 1]? = some (.cells #[.slice none 0 0, .int .i64 0, .slice none 0 0] 32)) := by
    rw [hw0]
    have := blk_new (w.alloc (.cells #[.slice a n c, .int .i64 k, .slice fa fn fc] 48)) (.cells #[.slice none 0 0, .int .i64 0, .slice none 0 0] 32)
    rw [show (w.alloc (.cells #[.slice a n c, .int .i64 k, .slice fa fn fc] 48)).heap.size = w.heap.size + 1 by simp] at this
    exact this
  have U0 : Hid (Below w.heap.size w w0) := by rw [hw0]; exact up_al (up_alloc _ _) _
  have CB : Hid (∀ w' : World, Below w0.heap.size w0 w' → w'.cell? ⟨w.heap.size, 0, none⟩ = some (.slice a n c) ∧ w'.cell? ⟨w.heap.size, 1, none⟩ = some (.int .i64 k) ∧ w'.cell? ⟨w.heap.size, 2, none⟩ = some (.slice fa fn fc) ∧ w'.cell? ⟨w.heap.size + 1, 0, none⟩ = some (.slice none 0 0) ∧ w'.cell? ⟨w.heap.size + 1, 1, none⟩ = some (.int .i64 0) ∧ w'.cell? ⟨w.heap.size + 1, 2, none⟩ = some (.slice none 0 0) ∧ (∀ j, w'.frozen? ⟨w.heap.size + 1, j, none⟩ = false)) := fun w' h => by
    have q0 := blk_up B0.out h
    have q1 := blk_up B1.out h
    exact ⟨blk_cell q0 0 _ rfl, blk_cell q0 1 _ rfl, blk_cell q0 2 _ rfl, blk_cell q1 0 _ rfl, blk_cell q1 1 _ rfl, blk_cell q1 2 _ rfl, fun j => blk_frozen q1 j⟩
  have C9 : Hid (∀ W : World, Below w0.heap.size w0 W → Calls Try.prog 17 #[.slice a n c] W fun e w' => ∃ ea ec, e = .returned (.slice ea n ec) ∧ Hid (EntsR w' (.slice ea n ec) l ∧ ∀ b, (Value.slice ea n ec).ownBlock = some b → w0.heap.size ≤ b) ∧ Below w0.heap.size w0 w' ∧ Below W.heap.size W w' ∧ w'.cell? ⟨w.heap.size, 0, none⟩ = some (.slice a n c) ∧ w'.cell? ⟨w.heap.size, 1, none⟩ = some (.int .i64 k) ∧ w'.cell? ⟨w.heap.size, 2, none⟩ = some (.slice fa fn fc) ∧ w'.cell? ⟨w.heap.size + 1, 0, none⟩ = some (.slice none 0 0) ∧ w'.cell? ⟨w.heap.size + 1, 1, none⟩ = some (.int .i64 0) ∧ w'.cell? ⟨w.heap.size + 1, 2, none⟩ = some (.slice none 0 0) ∧ (∀ j, w'.frozen? ⟨w.heap.size + 1, j, none⟩ = false)) := fun W h => by
    refine (copyEnts_any l _ W (EntsR.up hv (up_trans U0.out h)) (by omega)).mono ?_
    rintro e w' ⟨ea, en, ec, rfl, h1, h2, h3⟩
    obtain ⟨_, _, e1, _, _⟩ := h1.len
    simp only [Value.slice.injEq] at e1
    obtain rfl : en = n := by omega
    exact ⟨ea, ec, rfl, ⟨h1, fun b hb => Nat.le_trans h.size (h3 b hb)⟩, up_trans h h2, h2, CB.out _ (up_trans h h2)⟩
  have C10 : Hid (∀ W : World, Below w0.heap.size w0 W → Calls Try.prog 30 #[.slice fa fn fc] W fun e w' => ∃ ga gc, e = .returned (.slice ga fn gc) ∧ Hid (OwnB w' w0.heap.size (.slice ga fn gc) fb) ∧ Below w0.heap.size w0 w' ∧ Below W.heap.size W w' ∧ w'.cell? ⟨w.heap.size, 0, none⟩ = some (.slice a n c) ∧ w'.cell? ⟨w.heap.size, 1, none⟩ = some (.int .i64 k) ∧ w'.cell? ⟨w.heap.size, 2, none⟩ = some (.slice fa fn fc) ∧ w'.cell? ⟨w.heap.size + 1, 0, none⟩ = some (.slice none 0 0) ∧ w'.cell? ⟨w.heap.size + 1, 1, none⟩ = some (.int .i64 0) ∧ w'.cell? ⟨w.heap.size + 1, 2, none⟩ = some (.slice none 0 0) ∧ (∀ j, w'.frozen? ⟨w.heap.size + 1, j, none⟩ = false)) := fun W h => by
    refine (copy_any fb _ W (hf.up (up_trans U0.out h)) (by omega)).mono ?_
    rintro e w' ⟨v', rfl, h1, h2⟩
    obtain ⟨ga, gn, gc, rfl, h3⟩ := own_shape h1
    obtain rfl : gn = fn := by rw [h3.out, hfn]
    exact ⟨ga, gc, rfl, OwnB.mono h1 h.size, up_trans h h2, h2, CB.out _ (up_trans h h2)⟩
  have HFO : Hid (∀ x ∈ fb, 0 ≤ x ∧ x ≤ 255) := hf.1
  have S0 : Hid (w.heap.size + 1 < w0.heap.size) := blk_lt B1.out
  clear hv hf hw0 hn hfn
  go_enter Try.func16, Try.ntmps16
  go_upto_region 1 with fail
  rw [HW0.out]
  have u0 : Below w0.heap.size w0 w0 := Below.refl _ _
  have u0d : Below w0.heap.size w0 w0.drew := up_dr (Below.refl _ _)
  obtain ⟨y0, y1, y2, d0, d1, d2, f0⟩ := CB.out w0.drew u0d
  go_region_held3 (fun w' => w'.cell? ⟨w.heap.size, 0, none⟩ = some (.slice a n c) ∧ w'.cell? ⟨w.heap.size, 1, none⟩ = some (.int .i64 k) ∧ w'.cell? ⟨w.heap.size, 2, none⟩ = some (.slice fa fn fc)) (first | with_reducible exact ⟨x0, x1, x2⟩ | with_reducible exact ⟨z0, z1, z2⟩ | with_reducible exact ⟨y0, y1, y2⟩ | (simp [go_sem, y0, y1, y2]; done) | (simp [go_sem, z0, z1, z2]; done) | (simp [go_sem, x0, x1, x2]; done)) (first
    | (go_at_call 17; with_reducible refine (C9.out _ u0d).mono ?_; rintro e w2 ⟨ea, ec, rfl, E2, u2, v2, z0, z1, z2, m0, m1, m2, fm⟩)
    | (go_at_call 17; with_reducible refine (C9.out _ u3).mono ?_; rintro e w2 ⟨ea, ec, rfl, E2, u2, v2, z0, z1, z2, m0, m1, m2, fm⟩)
    | (go_at_call 30; with_reducible refine (C10.out _ u0d).mono ?_; rintro e w3 ⟨ga, gc, rfl, O3, u3, v3, x0, x1, x2, n0, n1, n2, fn3⟩)
    | (go_at_call 30; with_reducible refine (C10.out _ u2).mono ?_; rintro e w3 ⟨ga, gc, rfl, O3, u3, v3, x0, x1, x2, n0, n1, n2, fn3⟩))
  all_goals
    have B3 : Hid (w3.heap[w.heap.size + 1]? = some (.cells #[.slice none 0 0, .int .i64 0, .slice none 0 0] 32)) := blk_up B1.out u3
    have U3 : Hid (Below w.heap.size w w3) := up_trans U0.out u3
    go_wp2_with fail
    refine bodyPost_ret (results_tab1 rfl _ _ rfl (set3_blk B3.out _ _ _)) rfl ?_
    refine ⟨ea, ec, ga, gc, rfl, ?_, ?_, ?_⟩
    · refine Rws.far (EntsR.up E2.out.1 v3) (set3_grown w3 (w.heap.size + 1) _ _ _) (fun b hb _ he => ?_)
      have h1 := E2.out.2 b hb
      have h2 := S0.out
      injection he with he
      omega
    · exact Octs.own (ownB_far O3.out (set3_grown w3 (w.heap.size + 1) _ _ _) S0.out) HFO.out
    · exact U3.out.grown (set3_grown w3 (w.heap.size + 1) _ _ _) U3.out.size (fun k hk => by injection hk with hk; omega)

end Go.Proofs.Ytekoniaobmapdaa

/- What is got of versions in order. -/
namespace Go.Proofs.Ytekoniaobmapdaa
open Go.RowKit SumPlain
set_option linter.unusedVariables false
set_option linter.unusedSimpArgs false

theorem splitE {l : List En} {i : Nat} {x : En} (h : l[i]? = some x) : l = l.take i ++ x :: l.drop (i + 1) := by
  have hi := (List.getElem?_eq_some_iff.1 h).1
  have e := (List.getElem?_eq_some_iff.1 h).2
  rw [← e, ← List.drop_eq_getElem_cons hi, List.take_append_drop]
theorem before_seq {a b : En} (h : beforeE a b = true) (hk : a.key.toList = b.key.toList) : b.seq < a.seq := by
  unfold beforeE at h
  rw [hk, bl_self] at h
  simpa using h
theorem first_at {l : List En} (h : l.Pairwise (fun a b => beforeE a b = true)) {i : Nat} {x : En} (hx : l[i]? = some x) : firstF l x.key x.seq = some x := by
  unfold firstF
  rw [List.find?_eq_some_iff_append]
  refine ⟨by simp, l.take i, l.drop (i + 1), splitE hx, ?_⟩
  intro a ha
  rw [splitE hx] at h
  have hb := (List.pairwise_append.1 h).2.2 a ha x (by simp)
  by_cases hk : a.key.toList = x.key.toList
  · have := before_seq hb hk
    simp
    right
    omega
  · simp [hk]
theorem first_next {l : List En} (h : l.Pairwise (fun a b => beforeE a b = true)) {i : Nat} {x y : En} (hx : l[i]? = some x) (hy : l[i + 1]? = some y) (hk : y.key.toList = x.key.toList) : firstF l x.key (x.seq - 1) = some y := by
  have hp := h
  rw [splitE hx] at hp
  have hxy : beforeE x y = true := by
    refine (List.pairwise_cons.1 (List.pairwise_append.1 hp).2.1).1 y ?_
    have : (l.drop (i + 1))[0]? = some y := by rw [List.getElem?_drop]; simpa using hy
    exact List.mem_of_getElem? this
  have hs := before_seq hxy hk.symm
  unfold firstF
  rw [List.find?_eq_some_iff_append]
  refine ⟨by simp [hk]; omega, l.take (i + 1), l.drop (i + 1 + 1), splitE hy, ?_⟩
  intro a ha
  rw [List.take_add_one, hx] at ha
  rcases List.mem_append.1 ha with ha | ha
  · have hb := (List.pairwise_append.1 hp).2.2 a ha x (by simp)
    by_cases hk2 : a.key.toList = x.key.toList
    · have := before_seq hb hk2
      simp
      right
      omega
    · simp [hk2]
  · simp at ha
    subst ha
    simp
    omega
theorem first_none {l : List En} (h : l.Pairwise (fun a b => beforeE a b = true)) {i : Nat} {x : En} (hx : l[i]? = some x) (hn : ∀ y, l[i + 1]? = some y → y.key.toList ≠ x.key.toList) : firstF l x.key (x.seq - 1) = none := by
  have hp := h
  rw [splitE hx] at hp
  have hr := List.pairwise_cons.1 (List.pairwise_append.1 hp).2.1
  unfold firstF
  rw [List.find?_eq_none]
  intro z hz
  rw [splitE hx] at hz
  rcases List.mem_append.1 hz with hz | hz
  · have hb := (List.pairwise_append.1 hp).2.2 z hz x (by simp)
    by_cases hk2 : z.key.toList = x.key.toList
    · have := before_seq hb hk2
      simp
      intro _
      omega
    · simp [hk2]
  · rcases List.mem_cons.1 hz with rfl | hz
    · simp
      omega
    · cases hd : l.drop (i + 1) with
      | nil => rw [hd] at hz; cases hz
      | cons y r =>
        have hy : l[i + 1]? = some y := by
          have : (l.drop (i + 1))[0]? = some y := by rw [hd]; rfl
          rw [List.getElem?_drop] at this
          simpa using this
        have hyx := hn y hy
        have hxy : beforeE x y = true := hr.1 y (by rw [hd]; simp)
        rw [hd] at hz
        have hlt : Op.bytesLess x.key.toList y.key.toList = true := by
          unfold beforeE at hxy
          cases hq : Op.bytesLess x.key.toList y.key.toList
          · rw [hq] at hxy
            simp at hxy
            exact absurd hxy.1.symm hyx
          · rfl
        have hzk : ¬ z.key.toList = x.key.toList := by
          intro e
          rcases List.mem_cons.1 hz with rfl | hz
          · exact hyx e
          · have hyz : beforeE y z = true := by
              have := hr.2
              rw [hd] at this
              exact (List.pairwise_cons.1 this).1 z hz
            unfold beforeE at hyz
            rw [e] at hyz
            cases hq : Op.bytesLess y.key.toList x.key.toList
            · rw [hq] at hyz
              simp at hyz
              exact hyx hyz.1
            · have := bl_trans _ _ _ hlt hq
              rw [bl_self] at this
              cases this
        simp [hzk]

theorem firstV_at {l : List En} (h : l.Pairwise (fun a b => beforeE a b = true)) {i : Nat} {x : En} (hx : l[i]? = some x) : firstV l x.key x.seq = (x, true) := by unfold firstV; rw [first_at h hx]
theorem firstV_next {l : List En} (h : l.Pairwise (fun a b => beforeE a b = true)) {i : Nat} {x y : En} (hx : l[i]? = some x) (hy : l[i + 1]? = some y) (hk : y.key.toList = x.key.toList) : firstV l x.key (x.seq - 1) = (y, true) := by unfold firstV; rw [first_next h hx hy hk]
theorem firstV_none {l : List En} (h : l.Pairwise (fun a b => beforeE a b = true)) {i : Nat} {x : En} (hx : l[i]? = some x) (hn : ∀ y, l[i + 1]? = some y → y.key.toList ≠ x.key.toList) : firstV l x.key (x.seq - 1) = (default, false) := by unfold firstV; rw [first_none h hx hn]
theorem getT_tab {l : List En} (h : chkT l = 0) (key : ByteArray) (seq : Int) : getT (tabO l) key seq = ((firstV l key seq).1, (firstV l key seq).2, 0) := by
  unfold getT
  rw [open_tab h]
  simp
theorem ents_cut {W : World} {a : Option Addr} {n c : Nat} {l : List En} (hn : n = l.length) (h : EntsR W (.slice a n c) l) (m : Nat) (hm : m ≤ n) : EntsR W (.slice a m c) (l.take m) := by
  subst hn
  rcases Nat.eq_zero_or_pos l.length with h0 | h0
  · obtain rfl : m = 0 := by omega
    rw [h0] at h
    have e : l = [] := List.length_eq_zero_iff.1 h0
    subst e
    exact h
  · obtain ⟨b, off, cap, x, e, _⟩ := h.at 0 h0
    simp only [Value.slice.injEq] at e
    obtain ⟨rfl, _, rfl⟩ := e
    obtain ⟨_, _, e2, hc, _⟩ := h.len
    simp only [Value.slice.injEq] at e2
    have := ents_mid h 0 m (by omega) hm h0
    rw [if_neg (by omega)] at this
    simpa using this
end Go.Proofs.Ytekoniaobmapdaa
