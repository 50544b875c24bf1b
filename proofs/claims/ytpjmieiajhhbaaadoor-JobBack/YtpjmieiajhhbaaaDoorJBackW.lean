/- The statement that a job comes back. -/
import Derived.Test.YtpjmieiajhhbaaaDoorJPj
import Derived.Test.YtpjmieiajhhbaaaDoorGY
import Derived.Test.YtpjmieiajhhbaaaDoorGZ
namespace Go.Proofs.YtpjmieiajhhbaaaDoor
open Go.RowKit
set_option linter.unusedVariables false
set_option linter.unusedSimpArgs false


/-- What the program's Encode and Decode say, in every world that has grown out of w. -/
structure Pd (w : World) : Prop where
  encode : ∀ j : Jb, j.ok → ∀ w', Below w.heap.size w w' → Calls Tryd.prog 9 #[jobV j] w' fun e w'' => e = .returned (.tuple #[.string (strOfNums (encP j).1), .int .i64 (encP j).2]) ∧ Below w'.heap.size w' w''
  decode : ∀ X : List Int, TxtOk X → ∀ w', Below w.heap.size w w' → Calls Tryd.prog 11 #[.string (strOfNums X)] w' fun e w'' => DecE X e ∧ Below w'.heap.size w' w''
theorem enc_txt {j : Jb} (hj : j.ok) (h : chkJ j = 0) : TxtOk (encJ j) := by
  refine ⟨?_, by have := encJ_len h; omega⟩
  have a := (catO_len (numsJ j) (nums_in h)).2
  have T := texts_in h
  have b := (catT_len (textsJ j) (fun x hx => ⟨T x hx, by
    simp only [textsJ, List.mem_cons, List.not_mem_nil, or_false] at hx
    rcases hx with rfl | rfl | rfl
    · exact hj.na.1
    · exact hj.ru.1
    · exact hj.pa.1⟩)).2
  intro x hx
  unfold encJ at hx
  rcases List.mem_append.1 hx with hx | hx
  · exact a x hx
  · exact b x hx
theorem dec_ok {X : List Int} (hX : TxtOk X) (h : (decP X).2 = 0) : (decP X).1.ok := by
  obtain ⟨h0, e⟩ := dec_back hX.1 h
  have T := texts_in h0
  have M : ∀ t ∈ textsJ (decP X).1, ∀ x ∈ t, x ∈ X := by
    intro t ht x hx
    rw [← e]
    unfold encJ
    refine List.mem_append_right _ ?_
    unfold catT
    exact List.mem_flatten.2 ⟨textO t, List.mem_map_of_mem ht, List.mem_append_right _ hx⟩
  have O : ∀ t ∈ textsJ (decP X).1, TxtOk t := fun t ht => ⟨fun x hx => hX.1 x (M t ht x hx), by have := T t ht; omega⟩
  exact ⟨O _ (by simp [textsJ]), O _ (by simp [textsJ]), O _ (by simp [textsJ])⟩
theorem str_size (l : List Int) : (strOfNums l).size = l.length := by simp [strOfNums, ByteArray.size]
set_option maxHeartbeats 8000000 in
set_option maxRecDepth 20000 in
theorem back_walk (j : Jb) (hj : j.ok) (X : List Int) (hX : TxtOk X) (w : World) (hp : Pj w) (hd : Pd w) : Calls Tryd.prog 5 #[jobV j, .string (strOfNums X)] w fun e w' => e = .returned (.bool true) ∧ Below w.heap.size w w' := by
  have HA := hid (alive_any w hp)
  have H1 := hid (hd.encode j hj)
  have H3 : Hid (∀ w', Below w.heap.size w w' → Calls Tryd.prog 11 #[.string (strOfNums X)] w' fun e w'' => ∃ y, e = .returned (.tuple #[jobV (decP X).1, .int .i64 y]) ∧ (y = 0 ↔ (decP X).2 = 0) ∧ Below w'.heap.size w' w'') := fun w' hb => by
    refine (hd.decode X hX w' hb).mono ?_
    rintro e w1 ⟨⟨y, h1, h2⟩, h3⟩
    exact ⟨y, h1, h2, h3⟩
  have H2 : Hid (chkJ j = 0 → ∀ w', Below w.heap.size w w' → Calls Tryd.prog 11 #[.string (strOfNums (encJ j))] w' fun e w'' => e = .returned (.tuple #[jobV j, .int .i64 0]) ∧ Below w'.heap.size w' w'') := fun h w' hb => by
    refine (hd.decode (encJ j) (enc_txt hj h) w' hb).mono ?_
    rintro e w1 ⟨⟨y, h1, h2⟩, h3⟩
    rw [back_dec h] at h1 h2
    obtain rfl : y = 0 := h2.2 rfl
    exact ⟨h1, h3⟩
  have H4 : Hid ((decP X).2 = 0 → ∀ w', Below w.heap.size w w' → Calls Tryd.prog 9 #[jobV (decP X).1] w' fun e w'' => e = .returned (.tuple #[.string (strOfNums X), .int .i64 0]) ∧ Below w'.heap.size w' w'') := fun h w' hb => by
    have q := hd.encode (decP X).1 (dec_ok hX h) w' hb
    obtain ⟨h0, e⟩ := dec_back hX.1 h
    have E : encP (decP X).1 = (X, 0) := by
      unfold encP
      rw [if_neg (by rw [h0]; decide), e]
    rw [E] at q
    exact q
  have HL : Hid (chkJ j = 0 → ¬ 512 < ((strOfNums (encJ j)).size : Int)) := fun h => by
    have := encJ_len h
    rw [str_size]
    omega
  have H5 : Hid ((decP X).2 ≠ 0 → (decP X).1 = jb0) := fun h => dec_none h
  have EP : Hid ((chkJ j = 0 → encP j = (encJ j, 0)) ∧ (chkJ j ≠ 0 → encP j = ([], 9))) := ⟨fun h => by unfold encP; rw [if_neg (by rw [h]; decide)], fun h => if_pos h⟩
  clear hp hd hj hX
  generalize strOfNums X = xs at *
  generalize (decP X).2 = dc at *
  generalize (decP X).1 = D at *
  have k0 := hid (blk_new w (.cells (jobC j) 23))
  have u0 := hid (up_alloc w (.cells (jobC j) 23))
  unfold jobC at k0 u0
  by_cases c1 : chkJ j = 0
  · replace HL := HL.out c1
    replace H2 := hid (H2.out c1)
    rw [EP.out.1 c1] at H1
    generalize strOfNums (encJ j) = en at *
    clear EP c1
    by_cases c2 : dc = 0
    · subst c2
      replace H4 := hid (H4.out rfl)
      clear H5
      unfold jobV at H1 H2 H3 H4 ⊢
      obtain ⟨d0, dt1, dt2, dt3, d4, d5, d6, d7, d8, d9⟩ := D
      dsimp only at H3 H4
      generalize strOfNums dt1 = d1 at *
      generalize strOfNums dt2 = d2 at *
      generalize strOfNums dt3 = d3 at *
      obtain ⟨a0, at1, at2, at3, a4, a5, a6, a7, a8, a9⟩ := j
      dsimp only at H1 H2 k0 u0 HL ⊢
      generalize strOfNums at1 = a1 at *
      generalize strOfNums at2 = a2 at *
      generalize strOfNums at3 = a3 at *
      go_enter Tryd.func5, Tryd.ntmps5
      have z0 := blk_cell k0.out 0 _ rfl
      have z1 := blk_cell k0.out 1 _ rfl
      have z2 := blk_cell k0.out 2 _ rfl
      have z3 := blk_cell k0.out 3 _ rfl
      have z4 := blk_cell k0.out 4 _ rfl
      have z5 := blk_cell k0.out 5 _ rfl
      have z6 := blk_cell k0.out 6 _ rfl
      have z7 := blk_cell k0.out 7 _ rfl
      have z8 := blk_cell k0.out 8 _ rfl
      have z9 := blk_cell k0.out 9 _ rfl
      go_wp2_with fail
      refine (HA.out _ u0.out).mono ?_
      rintro e w1 ⟨rfl, hb⟩
      have k1 := hid (blk_up k0.out hb)
      have u1 := hid (up_trans u0.out hb)
      clear hb k0 u0
      clear z0 z1 z2 z3 z4 z5 z6 z7 z8 z9
      have z0 := blk_cell k1.out 0 _ rfl
      have z1 := blk_cell k1.out 1 _ rfl
      have z2 := blk_cell k1.out 2 _ rfl
      have z3 := blk_cell k1.out 3 _ rfl
      have z4 := blk_cell k1.out 4 _ rfl
      have z5 := blk_cell k1.out 5 _ rfl
      have z6 := blk_cell k1.out 6 _ rfl
      have z7 := blk_cell k1.out 7 _ rfl
      have z8 := blk_cell k1.out 8 _ rfl
      have z9 := blk_cell k1.out 9 _ rfl
      go_wp2_with fail
      refine (H1.out _ u1.out).mono ?_
      rintro e w2 ⟨rfl, hb⟩
      have k2 := hid (blk_up k1.out hb)
      have u2 := hid (up_trans u1.out hb)
      clear hb k1 u1
      clear z0 z1 z2 z3 z4 z5 z6 z7 z8 z9
      have z0 := blk_cell k2.out 0 _ rfl
      have z1 := blk_cell k2.out 1 _ rfl
      have z2 := blk_cell k2.out 2 _ rfl
      have z3 := blk_cell k2.out 3 _ rfl
      have z4 := blk_cell k2.out 4 _ rfl
      have z5 := blk_cell k2.out 5 _ rfl
      have z6 := blk_cell k2.out 6 _ rfl
      have z7 := blk_cell k2.out 7 _ rfl
      have z8 := blk_cell k2.out 8 _ rfl
      have z9 := blk_cell k2.out 9 _ rfl
      go_wp2_with fail
      refine (num_any _ _).mono ?_
      rintro e w9 ⟨rfl, rfl⟩
      go_wp2_with fail
      refine (H2.out _ u2.out).mono ?_
      rintro e w3 ⟨rfl, hb⟩
      have k3 := hid (blk_up (blk_up k2.out hb) (up_alloc w3 (.cells #[.int .i64 a0, .string a1, .string a2, .string a3, .int .i64 a4, .int .i64 a5, .int .i64 a6, .int .i64 a7, .int .i64 a8, .int .i64 a9] 27)))
      have q3 := hid (blk_new w3 (.cells #[.int .i64 a0, .string a1, .string a2, .string a3, .int .i64 a4, .int .i64 a5, .int .i64 a6, .int .i64 a7, .int .i64 a8, .int .i64 a9] 27))
      have u3 := hid (up_al (up_trans u2.out hb) (.cells #[.int .i64 a0, .string a1, .string a2, .string a3, .int .i64 a4, .int .i64 a5, .int .i64 a6, .int .i64 a7, .int .i64 a8, .int .i64 a9] 27))
      clear hb k2 u2
      clear z0 z1 z2 z3 z4 z5 z6 z7 z8 z9
      have z0 := blk_cell k3.out 0 _ rfl
      have z1 := blk_cell k3.out 1 _ rfl
      have z2 := blk_cell k3.out 2 _ rfl
      have z3 := blk_cell k3.out 3 _ rfl
      have z4 := blk_cell k3.out 4 _ rfl
      have z5 := blk_cell k3.out 5 _ rfl
      have z6 := blk_cell k3.out 6 _ rfl
      have z7 := blk_cell k3.out 7 _ rfl
      have z8 := blk_cell k3.out 8 _ rfl
      have z9 := blk_cell k3.out 9 _ rfl
      have y0 := blk_cell q3.out 0 _ rfl
      have y1 := blk_cell q3.out 1 _ rfl
      have y2 := blk_cell q3.out 2 _ rfl
      have y3 := blk_cell q3.out 3 _ rfl
      have y4 := blk_cell q3.out 4 _ rfl
      have y5 := blk_cell q3.out 5 _ rfl
      have y6 := blk_cell q3.out 6 _ rfl
      have y7 := blk_cell q3.out 7 _ rfl
      have y8 := blk_cell q3.out 8 _ rfl
      have y9 := blk_cell q3.out 9 _ rfl
      go_wp2_with fail
      refine (num_any _ _).mono ?_
      rintro e w9 ⟨rfl, rfl⟩
      go_wp2_with fail
      refine (H3.out _ u3.out).mono ?_
      rintro e w4 ⟨yy, rfl, hy, hb⟩
      obtain rfl : yy = 0 := by simpa using hy
      clear hy
      have q4 := hid (blk_new w4 (.cells #[.int .i64 d0, .string d1, .string d2, .string d3, .int .i64 d4, .int .i64 d5, .int .i64 d6, .int .i64 d7, .int .i64 d8, .int .i64 d9] 27))
      have u4 := hid (up_al (up_trans u3.out hb) (.cells #[.int .i64 d0, .string d1, .string d2, .string d3, .int .i64 d4, .int .i64 d5, .int .i64 d6, .int .i64 d7, .int .i64 d8, .int .i64 d9] 27))
      clear hb
      clear z0 z1 z2 z3 z4 z5 z6 z7 z8 z9
      have x0 := blk_cell q4.out 0 _ rfl
      have x1 := blk_cell q4.out 1 _ rfl
      have x2 := blk_cell q4.out 2 _ rfl
      have x3 := blk_cell q4.out 3 _ rfl
      have x4 := blk_cell q4.out 4 _ rfl
      have x5 := blk_cell q4.out 5 _ rfl
      have x6 := blk_cell q4.out 6 _ rfl
      have x7 := blk_cell q4.out 7 _ rfl
      have x8 := blk_cell q4.out 8 _ rfl
      have x9 := blk_cell q4.out 9 _ rfl
      go_wp2_with fail
      refine (num_any _ _).mono ?_
      rintro e w9 ⟨rfl, rfl⟩
      go_wp2_with fail
      refine (H4.out _ u4.out).mono ?_
      rintro e w5 ⟨rfl, hb⟩
      have u5 := hid (up_trans u4.out hb)
      go_wp2_with fail
      refine (num_any _ _).mono ?_
      rintro e w9 ⟨rfl, rfl⟩
      go_wp2_with fail
      go_ret
      exact ⟨by first | rfl | (simp; done), u5.out⟩
    · replace H5 := H5.out c2
      subst H5
      have C2 := hid c2
      rw [jobV_zero] at H3
      clear H4 c2
      unfold jobV at H1 H2 ⊢
      obtain ⟨a0, at1, at2, at3, a4, a5, a6, a7, a8, a9⟩ := j
      dsimp only at H1 H2 k0 u0 HL ⊢
      generalize strOfNums at1 = a1 at *
      generalize strOfNums at2 = a2 at *
      generalize strOfNums at3 = a3 at *
      go_enter Tryd.func5, Tryd.ntmps5
      have z0 := blk_cell k0.out 0 _ rfl
      have z1 := blk_cell k0.out 1 _ rfl
      have z2 := blk_cell k0.out 2 _ rfl
      have z3 := blk_cell k0.out 3 _ rfl
      have z4 := blk_cell k0.out 4 _ rfl
      have z5 := blk_cell k0.out 5 _ rfl
      have z6 := blk_cell k0.out 6 _ rfl
      have z7 := blk_cell k0.out 7 _ rfl
      have z8 := blk_cell k0.out 8 _ rfl
      have z9 := blk_cell k0.out 9 _ rfl
      go_wp2_with fail
      refine (HA.out _ u0.out).mono ?_
      rintro e w1 ⟨rfl, hb⟩
      have k1 := hid (blk_up k0.out hb)
      have u1 := hid (up_trans u0.out hb)
      clear hb k0 u0
      clear z0 z1 z2 z3 z4 z5 z6 z7 z8 z9
      have z0 := blk_cell k1.out 0 _ rfl
      have z1 := blk_cell k1.out 1 _ rfl
      have z2 := blk_cell k1.out 2 _ rfl
      have z3 := blk_cell k1.out 3 _ rfl
      have z4 := blk_cell k1.out 4 _ rfl
      have z5 := blk_cell k1.out 5 _ rfl
      have z6 := blk_cell k1.out 6 _ rfl
      have z7 := blk_cell k1.out 7 _ rfl
      have z8 := blk_cell k1.out 8 _ rfl
      have z9 := blk_cell k1.out 9 _ rfl
      go_wp2_with fail
      refine (H1.out _ u1.out).mono ?_
      rintro e w2 ⟨rfl, hb⟩
      have k2 := hid (blk_up k1.out hb)
      have u2 := hid (up_trans u1.out hb)
      clear hb k1 u1
      clear z0 z1 z2 z3 z4 z5 z6 z7 z8 z9
      have z0 := blk_cell k2.out 0 _ rfl
      have z1 := blk_cell k2.out 1 _ rfl
      have z2 := blk_cell k2.out 2 _ rfl
      have z3 := blk_cell k2.out 3 _ rfl
      have z4 := blk_cell k2.out 4 _ rfl
      have z5 := blk_cell k2.out 5 _ rfl
      have z6 := blk_cell k2.out 6 _ rfl
      have z7 := blk_cell k2.out 7 _ rfl
      have z8 := blk_cell k2.out 8 _ rfl
      have z9 := blk_cell k2.out 9 _ rfl
      go_wp2_with fail
      refine (num_any _ _).mono ?_
      rintro e w9 ⟨rfl, rfl⟩
      go_wp2_with fail
      refine (H2.out _ u2.out).mono ?_
      rintro e w3 ⟨rfl, hb⟩
      have k3 := hid (blk_up (blk_up k2.out hb) (up_alloc w3 (.cells #[.int .i64 a0, .string a1, .string a2, .string a3, .int .i64 a4, .int .i64 a5, .int .i64 a6, .int .i64 a7, .int .i64 a8, .int .i64 a9] 27)))
      have q3 := hid (blk_new w3 (.cells #[.int .i64 a0, .string a1, .string a2, .string a3, .int .i64 a4, .int .i64 a5, .int .i64 a6, .int .i64 a7, .int .i64 a8, .int .i64 a9] 27))
      have u3 := hid (up_al (up_trans u2.out hb) (.cells #[.int .i64 a0, .string a1, .string a2, .string a3, .int .i64 a4, .int .i64 a5, .int .i64 a6, .int .i64 a7, .int .i64 a8, .int .i64 a9] 27))
      clear hb k2 u2
      clear z0 z1 z2 z3 z4 z5 z6 z7 z8 z9
      have z0 := blk_cell k3.out 0 _ rfl
      have z1 := blk_cell k3.out 1 _ rfl
      have z2 := blk_cell k3.out 2 _ rfl
      have z3 := blk_cell k3.out 3 _ rfl
      have z4 := blk_cell k3.out 4 _ rfl
      have z5 := blk_cell k3.out 5 _ rfl
      have z6 := blk_cell k3.out 6 _ rfl
      have z7 := blk_cell k3.out 7 _ rfl
      have z8 := blk_cell k3.out 8 _ rfl
      have z9 := blk_cell k3.out 9 _ rfl
      have y0 := blk_cell q3.out 0 _ rfl
      have y1 := blk_cell q3.out 1 _ rfl
      have y2 := blk_cell q3.out 2 _ rfl
      have y3 := blk_cell q3.out 3 _ rfl
      have y4 := blk_cell q3.out 4 _ rfl
      have y5 := blk_cell q3.out 5 _ rfl
      have y6 := blk_cell q3.out 6 _ rfl
      have y7 := blk_cell q3.out 7 _ rfl
      have y8 := blk_cell q3.out 8 _ rfl
      have y9 := blk_cell q3.out 9 _ rfl
      go_wp2_with fail
      refine (num_any _ _).mono ?_
      rintro e w9 ⟨rfl, rfl⟩
      go_wp2_with fail
      refine (H3.out _ u3.out).mono ?_
      rintro e w4 ⟨yy, rfl, hy, hb⟩
      have n1 : (yy != 0) = true := by simpa using fun q => C2.out (hy.1 q)
      clear hy
      have q4 := hid (blk_new w4 (.cells #[.int .i64 0, .string { data := #[] }, .string { data := #[] }, .string { data := #[] }, .int .i64 0, .int .i64 0, .int .i64 0, .int .i64 0, .int .i64 0, .int .i64 0] 27))
      have u4 := hid (up_al (up_trans u3.out hb) (.cells #[.int .i64 0, .string { data := #[] }, .string { data := #[] }, .string { data := #[] }, .int .i64 0, .int .i64 0, .int .i64 0, .int .i64 0, .int .i64 0, .int .i64 0] 27))
      clear hb
      clear z0 z1 z2 z3 z4 z5 z6 z7 z8 z9
      have x0 := blk_cell q4.out 0 _ rfl
      have x1 := blk_cell q4.out 1 _ rfl
      have x2 := blk_cell q4.out 2 _ rfl
      have x3 := blk_cell q4.out 3 _ rfl
      have x4 := blk_cell q4.out 4 _ rfl
      have x5 := blk_cell q4.out 5 _ rfl
      have x6 := blk_cell q4.out 6 _ rfl
      have x7 := blk_cell q4.out 7 _ rfl
      have x8 := blk_cell q4.out 8 _ rfl
      have x9 := blk_cell q4.out 9 _ rfl
      go_wp2_with fail
      refine (num_any _ _).mono ?_
      rintro e w9 ⟨rfl, rfl⟩
      go_wp2_with fail
      go_ret
      exact ⟨by first | rfl | (simp; done), u4.out⟩
  · rw [EP.out.2 c1] at H1
    clear H2 HL
    clear EP c1
    by_cases c2 : dc = 0
    · subst c2
      replace H4 := hid (H4.out rfl)
      clear H5
      unfold jobV at H1 H3 H4 ⊢
      obtain ⟨d0, dt1, dt2, dt3, d4, d5, d6, d7, d8, d9⟩ := D
      dsimp only at H3 H4
      generalize strOfNums dt1 = d1 at *
      generalize strOfNums dt2 = d2 at *
      generalize strOfNums dt3 = d3 at *
      obtain ⟨a0, at1, at2, at3, a4, a5, a6, a7, a8, a9⟩ := j
      dsimp only at H1 k0 u0 ⊢
      generalize strOfNums at1 = a1 at *
      generalize strOfNums at2 = a2 at *
      generalize strOfNums at3 = a3 at *
      go_enter Tryd.func5, Tryd.ntmps5
      have z0 := blk_cell k0.out 0 _ rfl
      have z1 := blk_cell k0.out 1 _ rfl
      have z2 := blk_cell k0.out 2 _ rfl
      have z3 := blk_cell k0.out 3 _ rfl
      have z4 := blk_cell k0.out 4 _ rfl
      have z5 := blk_cell k0.out 5 _ rfl
      have z6 := blk_cell k0.out 6 _ rfl
      have z7 := blk_cell k0.out 7 _ rfl
      have z8 := blk_cell k0.out 8 _ rfl
      have z9 := blk_cell k0.out 9 _ rfl
      go_wp2_with fail
      refine (HA.out _ u0.out).mono ?_
      rintro e w1 ⟨rfl, hb⟩
      have k1 := hid (blk_up k0.out hb)
      have u1 := hid (up_trans u0.out hb)
      clear hb k0 u0
      clear z0 z1 z2 z3 z4 z5 z6 z7 z8 z9
      have z0 := blk_cell k1.out 0 _ rfl
      have z1 := blk_cell k1.out 1 _ rfl
      have z2 := blk_cell k1.out 2 _ rfl
      have z3 := blk_cell k1.out 3 _ rfl
      have z4 := blk_cell k1.out 4 _ rfl
      have z5 := blk_cell k1.out 5 _ rfl
      have z6 := blk_cell k1.out 6 _ rfl
      have z7 := blk_cell k1.out 7 _ rfl
      have z8 := blk_cell k1.out 8 _ rfl
      have z9 := blk_cell k1.out 9 _ rfl
      go_wp2_with fail
      refine (H1.out _ u1.out).mono ?_
      rintro e w2 ⟨rfl, hb⟩
      have k2 := hid (blk_up k1.out hb)
      have u2 := hid (up_trans u1.out hb)
      clear hb k1 u1
      clear z0 z1 z2 z3 z4 z5 z6 z7 z8 z9
      have z0 := blk_cell k2.out 0 _ rfl
      have z1 := blk_cell k2.out 1 _ rfl
      have z2 := blk_cell k2.out 2 _ rfl
      have z3 := blk_cell k2.out 3 _ rfl
      have z4 := blk_cell k2.out 4 _ rfl
      have z5 := blk_cell k2.out 5 _ rfl
      have z6 := blk_cell k2.out 6 _ rfl
      have z7 := blk_cell k2.out 7 _ rfl
      have z8 := blk_cell k2.out 8 _ rfl
      have z9 := blk_cell k2.out 9 _ rfl
      go_wp2_with fail
      refine (num_any _ _).mono ?_
      rintro e w9 ⟨rfl, rfl⟩
      go_wp2_with fail
      refine (H3.out _ u2.out).mono ?_
      rintro e w4 ⟨yy, rfl, hy, hb⟩
      obtain rfl : yy = 0 := by simpa using hy
      clear hy
      have q4 := hid (blk_new w4 (.cells #[.int .i64 d0, .string d1, .string d2, .string d3, .int .i64 d4, .int .i64 d5, .int .i64 d6, .int .i64 d7, .int .i64 d8, .int .i64 d9] 27))
      have u4 := hid (up_al (up_trans u2.out hb) (.cells #[.int .i64 d0, .string d1, .string d2, .string d3, .int .i64 d4, .int .i64 d5, .int .i64 d6, .int .i64 d7, .int .i64 d8, .int .i64 d9] 27))
      clear hb
      clear z0 z1 z2 z3 z4 z5 z6 z7 z8 z9
      have x0 := blk_cell q4.out 0 _ rfl
      have x1 := blk_cell q4.out 1 _ rfl
      have x2 := blk_cell q4.out 2 _ rfl
      have x3 := blk_cell q4.out 3 _ rfl
      have x4 := blk_cell q4.out 4 _ rfl
      have x5 := blk_cell q4.out 5 _ rfl
      have x6 := blk_cell q4.out 6 _ rfl
      have x7 := blk_cell q4.out 7 _ rfl
      have x8 := blk_cell q4.out 8 _ rfl
      have x9 := blk_cell q4.out 9 _ rfl
      go_wp2_with fail
      refine (num_any _ _).mono ?_
      rintro e w9 ⟨rfl, rfl⟩
      go_wp2_with fail
      refine (H4.out _ u4.out).mono ?_
      rintro e w5 ⟨rfl, hb⟩
      have u5 := hid (up_trans u4.out hb)
      go_wp2_with fail
      refine (num_any _ _).mono ?_
      rintro e w9 ⟨rfl, rfl⟩
      go_wp2_with fail
      go_ret
      exact ⟨by first | rfl | (simp; done), u5.out⟩
    · replace H5 := H5.out c2
      subst H5
      have C2 := hid c2
      rw [jobV_zero] at H3
      clear H4 c2
      unfold jobV at H1 ⊢
      obtain ⟨a0, at1, at2, at3, a4, a5, a6, a7, a8, a9⟩ := j
      dsimp only at H1 k0 u0 ⊢
      generalize strOfNums at1 = a1 at *
      generalize strOfNums at2 = a2 at *
      generalize strOfNums at3 = a3 at *
      go_enter Tryd.func5, Tryd.ntmps5
      have z0 := blk_cell k0.out 0 _ rfl
      have z1 := blk_cell k0.out 1 _ rfl
      have z2 := blk_cell k0.out 2 _ rfl
      have z3 := blk_cell k0.out 3 _ rfl
      have z4 := blk_cell k0.out 4 _ rfl
      have z5 := blk_cell k0.out 5 _ rfl
      have z6 := blk_cell k0.out 6 _ rfl
      have z7 := blk_cell k0.out 7 _ rfl
      have z8 := blk_cell k0.out 8 _ rfl
      have z9 := blk_cell k0.out 9 _ rfl
      go_wp2_with fail
      refine (HA.out _ u0.out).mono ?_
      rintro e w1 ⟨rfl, hb⟩
      have k1 := hid (blk_up k0.out hb)
      have u1 := hid (up_trans u0.out hb)
      clear hb k0 u0
      clear z0 z1 z2 z3 z4 z5 z6 z7 z8 z9
      have z0 := blk_cell k1.out 0 _ rfl
      have z1 := blk_cell k1.out 1 _ rfl
      have z2 := blk_cell k1.out 2 _ rfl
      have z3 := blk_cell k1.out 3 _ rfl
      have z4 := blk_cell k1.out 4 _ rfl
      have z5 := blk_cell k1.out 5 _ rfl
      have z6 := blk_cell k1.out 6 _ rfl
      have z7 := blk_cell k1.out 7 _ rfl
      have z8 := blk_cell k1.out 8 _ rfl
      have z9 := blk_cell k1.out 9 _ rfl
      go_wp2_with fail
      refine (H1.out _ u1.out).mono ?_
      rintro e w2 ⟨rfl, hb⟩
      have k2 := hid (blk_up k1.out hb)
      have u2 := hid (up_trans u1.out hb)
      clear hb k1 u1
      clear z0 z1 z2 z3 z4 z5 z6 z7 z8 z9
      have z0 := blk_cell k2.out 0 _ rfl
      have z1 := blk_cell k2.out 1 _ rfl
      have z2 := blk_cell k2.out 2 _ rfl
      have z3 := blk_cell k2.out 3 _ rfl
      have z4 := blk_cell k2.out 4 _ rfl
      have z5 := blk_cell k2.out 5 _ rfl
      have z6 := blk_cell k2.out 6 _ rfl
      have z7 := blk_cell k2.out 7 _ rfl
      have z8 := blk_cell k2.out 8 _ rfl
      have z9 := blk_cell k2.out 9 _ rfl
      go_wp2_with fail
      refine (num_any _ _).mono ?_
      rintro e w9 ⟨rfl, rfl⟩
      go_wp2_with fail
      refine (H3.out _ u2.out).mono ?_
      rintro e w4 ⟨yy, rfl, hy, hb⟩
      have n1 : (yy != 0) = true := by simpa using fun q => C2.out (hy.1 q)
      clear hy
      have q4 := hid (blk_new w4 (.cells #[.int .i64 0, .string { data := #[] }, .string { data := #[] }, .string { data := #[] }, .int .i64 0, .int .i64 0, .int .i64 0, .int .i64 0, .int .i64 0, .int .i64 0] 27))
      have u4 := hid (up_al (up_trans u2.out hb) (.cells #[.int .i64 0, .string { data := #[] }, .string { data := #[] }, .string { data := #[] }, .int .i64 0, .int .i64 0, .int .i64 0, .int .i64 0, .int .i64 0, .int .i64 0] 27))
      clear hb
      clear z0 z1 z2 z3 z4 z5 z6 z7 z8 z9
      have x0 := blk_cell q4.out 0 _ rfl
      have x1 := blk_cell q4.out 1 _ rfl
      have x2 := blk_cell q4.out 2 _ rfl
      have x3 := blk_cell q4.out 3 _ rfl
      have x4 := blk_cell q4.out 4 _ rfl
      have x5 := blk_cell q4.out 5 _ rfl
      have x6 := blk_cell q4.out 6 _ rfl
      have x7 := blk_cell q4.out 7 _ rfl
      have x8 := blk_cell q4.out 8 _ rfl
      have x9 := blk_cell q4.out 9 _ rfl
      go_wp2_with fail
      refine (num_any _ _).mono ?_
      rintro e w9 ⟨rfl, rfl⟩
      go_wp2_with fail
      go_ret
      exact ⟨by first | rfl | (simp; done), u4.out⟩
end Go.Proofs.YtpjmieiajhhbaaaDoor
