/- What the program's four functions do, as the laws' walks want it; BlockBack walked upon it. -/
import Derived.Test.YtibjjhceiohmeaaNH
namespace Go.Proofs.Ytibjjhceiohmeaa
open Go.RowKit SumPlain
set_option linter.unusedVariables false
set_option linter.unusedSimpArgs false

/-- What is wanted of the program's functions. -/
structure Pg : Prop where
  enc : ∀ (l : List En) (v : Value) (W : World), EntsR W v l → Calls Try.prog 11 #[v] W fun e w' => ∃ a n c, e = .returned (.tuple #[.slice a n c, .int .i64 (encB l).2]) ∧ Hid (n = (encB l).1.length) ∧ Hid (OwnB w' W.heap.size (.slice a n c) (encB l).1) ∧ Hid (Below W.heap.size W w')
  dec : ∀ (B : List Int) (v : Value) (W : World), Octs W v B → B.length ≤ 140737488351232 → Calls Try.prog 13 #[v] W fun e w' => ∃ a n c, e = .returned (.tuple #[.slice a n c, .int .i64 (decB B).2]) ∧ Hid (n = (decB B).1.length) ∧ Hid (OwnR w' W.heap.size 36 4 (.slice a n c) ((decB B).1.map enRow)) ∧ Hid (Below W.heap.size W w')
  seek : ∀ (B : List Int) (v : Value) (key : ByteArray) (seq : Int) (W : World), Octs W v B → B.length ≤ 140737488351232 → Calls Try.prog 15 #[v, .string key, .int .i64 seq] W fun e w' => e = .returned (.tuple #[enV (seekB B key seq).1, .bool (seekB B key seq).2.1, .int .i64 (seekB B key seq).2.2]) ∧ Hid (Below W.heap.size W w')
  chk : ∀ (l : List En) (v : Value) (W : World), EntsR W v l → Calls Try.prog 20 #[v] W fun e w' => e = .returned (.int .i64 (chkB l)) ∧ Hid (Below W.heap.size W w')
  alive : ∀ (W : World), Calls Try.prog 22 #[] W fun e w' => e = .returned (.bool true) ∧ Hid (Below W.heap.size W w')

theorem encB_zero {l : List En} : (encB l).2 = 0 ↔ chkB l = 0 := by
  unfold encB
  by_cases h : chkB l = 0
  · rw [if_pos h]; simp [h]
  · rw [if_neg h]
theorem encB_len (l : List En) : (encB l).1.length ≤ 41500 := by
  unfold encB
  by_cases h : chkB l = 0
  · rw [if_pos h]
    obtain ⟨l1, l2, hm⟩ := chkB_may h
    have h1 := bodyO_le l 0 [] hm
    have h2 := tailO_len l 0 [] 0
    simp only [guard_len, blockO, List.length_append, List.length_cons, List.length_nil]
    omega
  · rw [if_neg h]; simp
theorem encB_none {l : List En} (h : (encB l).2 ≠ 0) : (encB l).1 = [] := by
  have h' : ¬ chkB l = 0 := fun e => h (encB_zero.2 e)
  unfold encB
  rw [if_neg h']

theorem sameB_law (l : List Int) (v1 v2 : Value) (W : World) (h1 : Octs W v1 l) (h2 : Octs W v2 l) : Calls Try.prog 17 #[v1, v2] W fun e w' => e = .returned (.bool true) ∧ w' = W := by
  refine (same_any l l _ _ W h1 h2).mono ?_
  rintro e w' ⟨rfl, hb⟩
  exact ⟨by simp, hb⟩

set_option maxHeartbeats 4000000 in
theorem back_walk (P : Pg) (l : List En) (B : List Int) (vl vb : Value) (w : World) (hl : EntsR w vl l) (hb : Octs w vb B) (hbl : B.length ≤ 140737488351232) :
    Calls Try.prog 4 #[vl, vb] w fun e w' => e = .returned (.bool true) ∧ Below w.heap.size w w' := by
  have HL : Hid (EntsR w vl l) := hl
  have HB : Hid (Octs w vb B) := hb
  have HP : Hid Pg := P
  have HBL : Hid (B.length ≤ 140737488351232) := hbl
  clear hl hb hbl P
  -- the second half, at any world above
  have HN : Hid (∀ (x : Int) (W : World), Calls Try.prog 18 #[.int .i64 x] W fun e w' => e = .returned (.int .i64 x) ∧ w' = W) := num_any
  have H2 : Hid ((decB B).2 = 0 → ∀ (v : Value) (W : World), EntsR W v (decB B).1 → Calls Try.prog 11 #[v] W fun e w' => ∃ a n c, e = .returned (.tuple #[.slice a n c, .int .i64 0]) ∧ Hid (Octs w' (.slice a n c) B) ∧ Hid (Below W.heap.size W w')) := by
    intro h0 v W h
    have e := enc_decB h0
    refine (HP.out.enc _ v W h).mono ?_
    rintro e' w' ⟨a, n, c, rfl, _, h5, h6⟩
    rw [e] at h5 ⊢
    exact ⟨a, n, c, rfl, Octs.own h5.out HB.out.1, h6⟩
  have H1 : Hid ((encB l).2 = 0 → ∀ (v : Value) (W : World), Octs W v (encB l).1 → Calls Try.prog 13 #[v] W fun e w' => ∃ a n c, e = .returned (.tuple #[.slice a n c, .int .i64 0]) ∧ Hid (EntsR w' (.slice a n c) l) ∧ Hid (Below W.heap.size W w')) := by
    intro h0 v W h
    have e := dec_encB (encB_zero.1 h0)
    refine (HP.out.dec _ v W h (by have := encB_len l; omega)).mono ?_
    rintro e' w' ⟨a, n, c, rfl, _, h5, h6⟩
    rw [e] at h5 ⊢
    exact ⟨a, n, c, rfl, Rws.own h5.out, h6⟩
  have HE : Hid (∀ (v : Value) (W : World), EntsR W v l → Calls Try.prog 11 #[v] W fun e w' => ∃ a n c, e = .returned (.tuple #[.slice a n c, .int .i64 (encB l).2]) ∧ Hid (Octs w' (.slice a n c) (encB l).1) ∧ Hid (Below W.heap.size W w')) := by
    intro v W h
    refine (HP.out.enc l v W h).mono ?_
    rintro e' w' ⟨a, n, c, rfl, _, h5, h6⟩
    exact ⟨a, n, c, rfl, Octs.own h5.out (encB_oct l), h6⟩
  have HD : Hid (∀ (v : Value) (W : World), Octs W v B → Calls Try.prog 13 #[v] W fun e w' => ∃ a n c, e = .returned (.tuple #[.slice a n c, .int .i64 (decB B).2]) ∧ Hid (n = (decB B).1.length) ∧ Hid (EntsR w' (.slice a n c) (decB B).1) ∧ Hid (Below W.heap.size W w')) := by
    intro v W h
    refine (HP.out.dec B v W h HBL.out).mono ?_
    rintro e' w' ⟨a, n, c, rfl, hn, h5, h6⟩
    exact ⟨a, n, c, rfl, hn, Rws.own h5.out, h6⟩
  have HZ : Hid ((decB B).2 ≠ 0 → (decB B).1.length = 0) := fun h => by rw [decB_bad h]; rfl
  generalize (decB B).2 = q at *
  generalize (decB B).1 = L at *
  generalize (encB l).2 = p at *
  generalize (encB l).1 = E at *
  -- what comes behind the first half
  go_enter Try.func4, Try.ntmps4
  go_wp2_with fail
  refine (HP.out.alive _).mono ?_
  rintro e w1 ⟨rfl, b1⟩
  go_wp2_with fail
  refine (HE.out _ _ (HL.out.up b1.out)).mono ?_
  rintro e w2 ⟨xa, xn, xc, rfl, OX, b2⟩
  have U2 : Hid (Below w.heap.size w w2) := up_trans b1.out b2.out
  clear b1 b2
  by_cases hp : p = 0
  · subst hp
    go_wp2_with fail
    refine (HN.out _ _).mono ?_
    rintro e w3 ⟨rfl, rfl⟩
    go_wp2_with fail
    refine (H1.out trivial _ _ OX.out).mono ?_
    rintro e w4 ⟨ya, yn, yc, rfl, EY, b4⟩
    have U4 : Hid (Below w.heap.size w w4) := up_trans U2.out b4.out
    clear b4 U2 OX
    go_wp2_with fail
    refine (HN.out _ _).mono ?_
    rintro e w5 ⟨rfl, rfl⟩
    have HSM := sameEnts_self l _ _ _ EY.out (HL.out.up U4.out)
    go_wp2_with fail
    refine HSM.mono ?_
    rintro e w5' ⟨rfl, d, rfl⟩
    have UU : Hid (Below w.heap.size w (w5.drewN d)) := up_trans U4.out (up_drewN _ d)
    clear HSM U4 EY
    generalize w5.drewN d = W5 at *
    go_wp2_with fail
    refine (HD.out _ _ (HB.out.up UU.out)).mono ?_
    rintro e w6 ⟨za, zn, zc, rfl, hz, EZ, b6⟩
    have U6 : Hid (Below w.heap.size w w6) := up_trans UU.out b6.out
    clear b6 UU
    by_cases hq : q = 0
    · subst hq
      clear HZ
      go_wp2_with fail
      refine (HN.out _ _).mono ?_
      rintro e w7 ⟨rfl, rfl⟩
      go_wp2_with fail
      refine (H2.out trivial _ _ EZ.out).mono ?_
      rintro e w8 ⟨ga, gn, gc, rfl, OG, b8⟩
      have U8 : Hid (Below w.heap.size w w8) := up_trans U6.out b8.out
      clear b8 U6 EZ
      go_wp2_with fail
      refine (HN.out _ _).mono ?_
      rintro e w9 ⟨rfl, rfl⟩
      have HSB := sameB_law B _ _ _ OG.out (HB.out.up U8.out)
      go_wp2_with fail
      refine HSB.mono ?_
      rintro e w10 ⟨rfl, rfl⟩
      clear HSB
      go_wp2
      go_ret
      exact ⟨rfl, U8.out⟩
    · have hq1 : (q == 0) = false := by simp [hq]
      have hq2 : (q != 0) = true := by simp [hq]
      obtain rfl : zn = 0 := by rw [hz.out, HZ.out hq]
      go_wp2_with fail
      refine (HN.out _ _).mono ?_
      rintro e w7 ⟨rfl, rfl⟩
      go_wp2
      go_ret
      exact ⟨rfl, U6.out⟩
  · have hp1 : (p == 0) = false := by simp [hp]
    have hp2 : (p != 0) = true := by simp [hp]
    go_wp2_with fail
    refine (HN.out _ _).mono ?_
    rintro e w3 ⟨rfl, rfl⟩
    have UU := U2
    clear U2
    go_wp2_with fail
    refine (HD.out _ _ (HB.out.up UU.out)).mono ?_
    rintro e w6 ⟨za, zn, zc, rfl, hz, EZ, b6⟩
    have U6 : Hid (Below w.heap.size w w6) := up_trans UU.out b6.out
    clear b6 UU
    by_cases hq : q = 0
    · subst hq
      clear HZ
      go_wp2_with fail
      refine (HN.out _ _).mono ?_
      rintro e w7 ⟨rfl, rfl⟩
      go_wp2_with fail
      refine (H2.out trivial _ _ EZ.out).mono ?_
      rintro e w8 ⟨ga, gn, gc, rfl, OG, b8⟩
      have U8 : Hid (Below w.heap.size w w8) := up_trans U6.out b8.out
      clear b8 U6 EZ
      go_wp2_with fail
      refine (HN.out _ _).mono ?_
      rintro e w9 ⟨rfl, rfl⟩
      have HSB := sameB_law B _ _ _ OG.out (HB.out.up U8.out)
      go_wp2_with fail
      refine HSB.mono ?_
      rintro e w10 ⟨rfl, rfl⟩
      clear HSB
      go_wp2
      go_ret
      exact ⟨rfl, U8.out⟩
    · have hq1 : (q == 0) = false := by simp [hq]
      have hq2 : (q != 0) = true := by simp [hq]
      obtain rfl : zn = 0 := by rw [hz.out, HZ.out hq]
      go_wp2_with fail
      refine (HN.out _ _).mono ?_
      rintro e w7 ⟨rfl, rfl⟩
      go_wp2
      go_ret
      exact ⟨rfl, U6.out⟩
end Go.Proofs.Ytibjjhceiohmeaa
