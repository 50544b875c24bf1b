/- BlockRot walked upon what is wanted of the program. -/
import Derived.Test.YtibjjhceiohmeaaXLaw
namespace Go.Proofs.Ytibjjhceiohmeaa
open Go.RowKit SumPlain
set_option linter.unusedVariables false
set_option linter.unusedSimpArgs false

theorem rot_at (at' : Int) (n : Nat) (hn : 0 < n) : -(n : Int) < at'.tmod n ∧ at'.tmod n < (n : Int) ∧ ∃ p : Nat, p < n ∧ (at'.tmod n + (n : Int)).tmod n = (p : Int) := by
  have h1 : -(n : Int) < at'.tmod n := by
    by_cases h : 0 ≤ at'
    · have := Int.tmod_nonneg (n : Int) h
      omega
    · have e : at'.tmod n = -((-at').tmod n) := by rw [Int.neg_tmod]; simp
      have := Int.tmod_lt_of_pos (-at') (b := (n : Int)) (by omega)
      omega
  have h2 : at'.tmod n < (n : Int) := Int.tmod_lt_of_pos at' (by omega)
  refine ⟨h1, h2, ?_⟩
  generalize at'.tmod n = r at *
  have e : (r + (n : Int)).tmod n = (r + (n : Int)) % n := Int.tmod_eq_emod_of_nonneg (by omega)
  have h3 := Int.emod_nonneg (r + (n : Int)) (b := (n : Int)) (by omega)
  have h4 := Int.emod_lt_of_pos (r + (n : Int)) (b := (n : Int)) (by omega)
  exact ⟨((r + (n : Int)) % n).toNat, by omega, by rw [e]; omega⟩

theorem wrap64_any (n : Int) (h0 : -9223372036854775808 ≤ n) (h1 : n ≤ 9223372036854775807) : IntKind.i64.wrap n = n := by
  simp [IntKind.wrap, IntKind.bits, IntKind.signed]; omega

set_option maxHeartbeats 4000000 in
theorem rot_walk (P : Pg) (l : List En) (vl : Value) (at' z : Int) (w : World) (hl : EntsR w vl l) (hz0 : 0 ≤ z) (hz1 : z ≤ 255) :
    Calls Try.prog 6 #[vl, .int .i64 at', .int .u8 z] w fun e w' => e = .returned (.bool true) ∧ Below w.heap.size w w' := by
  have HL : Hid (EntsR w vl l) := hl
  have HP : Hid Pg := P
  have HN : Hid (∀ (x : Int) (W : World), Calls Try.prog 18 #[.int .i64 x] W fun e w' => e = .returned (.int .i64 x) ∧ w' = W) := num_any
  clear hl P
  go_enter Try.func6, Try.ntmps6
  go_wp2_with fail
  refine (HP.out.alive _).mono ?_
  rintro e w1 ⟨rfl, b1⟩
  go_wp2_with fail
  refine (HP.out.enc l _ _ (HL.out.up b1.out)).mono ?_
  rintro e w2 ⟨xa, xn, xc, rfl, hxn, OX, b2⟩
  have U1 : Hid (Below w.heap.size w w1) := b1
  have U2 : Hid (Below w.heap.size w w2) := up_trans b1.out b2.out
  clear b1 b2
  by_cases hp : (encB l).2 = 0
  · rw [hp]
    by_cases hz : z = 0
    · subst hz
      go_wp2_with fail
      refine (HN.out _ _).mono ?_
      rintro e w3 ⟨rfl, rfl⟩
      go_wp2_with fail
      refine (HN.out _ _).mono ?_
      rintro e w4 ⟨rfl, rfl⟩
      go_wp2
      go_ret
      exact ⟨rfl, U2.out⟩
    · have hz2 : (z == 0) = false := by simp [hz]
      have hz3 : (z != 0) = true := by simp [hz]
      have hc := encB_zero.1 hp
      have hE := encB_oct l
      have hEl := encB_len l
      have hpos : 0 < (encB l).1.length := by
        unfold encB
        rw [if_pos hc]
        simp only [guard_len]
        omega
      have HRD : Hid (∀ p : Nat, p < (encB l).1.length → decB ((encB l).1.set p (bits .xor .u8 ((encB l).1.getD p 0) z)) = ([], 21)) := fun p h => rot_dec l hc hE p h z (by omega) hz1
      clear hc hp
      generalize (encB l).1 = E at *
      have hxn' := hxn.out
      obtain ⟨m1, m2, p, hpn, hpe⟩ := rot_at at' xn (by omega)
      obtain ⟨r, hr⟩ : ∃ r, at'.tmod xn = r := ⟨_, rfl⟩
      rw [hr] at m1 m2 hpe
      have hw1 : IntKind.i64.wrap r = r := wrap64_any _ (by omega) (by omega)
      have hw2 : IntKind.i64.wrap (r + (xn : Int)) = r + (xn : Int) := wrap64_any _ (by omega) (by omega)
      have hw3 : IntKind.i64.wrap (p : Int) = (p : Int) := wrap64_any _ (by omega) (by omega)
      have hx0 : ¬ (xn : Int) = 0 := by omega
      have hx1 : ((xn : Int) == 0) = false := by simp; omega
      have hpl : (p : Int) < (xn : Int) := by omega
      have hp0 : 0 ≤ (p : Int) := by omega
      obtain ⟨g, rfl⟩ : ∃ g, xa = some ⟨g, 0, none⟩ := by
        obtain ⟨_, h⟩ := OX.out
        rcases h with ⟨e, h0⟩ | ⟨g, c2, cur, e, _⟩
        · omega
        · simp at e
          exact ⟨g, e.1⟩
      have ho := OX.out
      unfold OwnB at ho
      rw [← hxn'] at ho
      have hc0 := ho.cellAt p (by omega)
      have hf0 := ho.frozenAt p
      obtain ⟨y, hy⟩ : ∃ y, E[p]? = some y := ⟨_, List.getElem?_eq_getElem (by omega)⟩
      rw [List.getElem?_map, hy] at hc0
      simp only [Option.map_some] at hc0
      have hyE : E.getD p 0 = y := by simp [List.getD, hy]
      have hyo := hE y (List.mem_of_getElem? hy)
      have HS : Hid (Octs (w2.setCell ⟨g, p, none⟩ (.int .u8 (bits .xor .u8 y z))) (.slice (some ⟨g, 0, none⟩) xn xc) (E.set p (bits .xor .u8 y z)) ∧ Below w.heap.size w (w2.setCell ⟨g, p, none⟩ (.int .u8 (bits .xor .u8 y z)))) := by
        have hst := ho.stored p (.int .u8 (bits .xor .u8 y z))
        refine ⟨Octs.own (base := w1.heap.size) ?_ ?_, U2.out.grown (grown_set _ _ _) U2.out.size (fun k hk => ?_)⟩
        · unfold OwnB
          rw [List.length_set, ← hxn', List.map_set]
          exact hst.1
        · intro x hx
          rcases List.mem_or_eq_of_mem_set hx with h1 | h1
          · exact hE x h1
          · rw [h1]; exact (xor8 y z hyo.1 hyo.2 hz0 hz1).2
        · simp at hk
          have h1 := (ho.lt g (by simp [Value.ownBlock])).1
          have h2 := U1.out.size
          omega
      have HDD : Hid (decB (E.set p (bits .xor .u8 y z)) = ([], 21)) := by
        have := HRD.out p (by omega)
        rw [hyE] at this
        exact this
      have HLE : Hid ((E.set p (bits .xor .u8 y z)).length ≤ 140737488351232) := by unfold Hid; rw [List.length_set]; omega
      clear ho hy hyE hyo HRD hE hEl hpos hxn hxn' U2 OX
      go_wp2_with fail
      refine (HN.out _ _).mono ?_
      rintro e w3 ⟨rfl, rfl⟩
      go_wp2_with fail
      refine (HP.out.dec _ _ _ HS.out.1 HLE.out).mono ?_
      rintro e w5 ⟨ya, yn, yc, rfl, hyn, OY, b5⟩
      have U5 : Hid (Below w.heap.size w w5) := up_trans HS.out.2 b5.out
      have hyn' := hyn.out
      rw [HDD.out] at hyn' ⊢
      obtain rfl : yn = 0 := hyn'
      clear b5 hyn OY HS HDD HLE hc0 hf0
      go_wp2_with fail
      refine (HN.out _ _).mono ?_
      rintro e w6 ⟨rfl, rfl⟩
      go_wp2
      go_ret
      exact ⟨rfl, U5.out⟩
  · have HZ : Hid (xn = 0) := by
      have := hxn.out
      rw [encB_none hp] at this
      exact this
    obtain rfl : xn = 0 := HZ.out
    clear hxn OX HZ
    generalize (encB l).2 = q at *
    have hq1 : (q == 0) = false := by simp [hp]
    have hq2 : (q != 0) = true := by simp [hp]
    go_wp2_with fail
    refine (HN.out _ _).mono ?_
    rintro e w3 ⟨rfl, rfl⟩
    go_wp2_with fail
    refine (HN.out _ _).mono ?_
    rintro e w4 ⟨rfl, rfl⟩
    go_wp2
    go_ret
    exact ⟨rfl, U2.out⟩
end Go.Proofs.Ytibjjhceiohmeaa
