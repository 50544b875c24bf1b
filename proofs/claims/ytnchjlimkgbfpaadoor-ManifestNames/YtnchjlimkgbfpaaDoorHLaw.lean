/- The page's example, and the walk of the statement on names. -/
import Derived.Test.YtnchjlimkgbfpaaDoorHRfp
namespace Go.Proofs.YtnchjlimkgbfpaaDoor
open Go.RowKit
set_option linter.unusedVariables false
set_option linter.unusedSimpArgs false

theorem num_any (x : Int) (w : World) : Calls Tryd.prog 9 #[.int .i64 x] w fun e w' => e = .returned (.int .i64 x) ∧ w' = w := by
  go_enter Tryd.func9, Tryd.ntmps9
  go_wp2
  go_ret
  exact ⟨rfl, rfl⟩
theorem digs12 : digs 12 = [49, 50] := by
  rw [digs_pos (by decide), digs_pos (by decide)]
  simp [digs_zero]
theorem name12 : nameN 116 12 = ([116, 49, 50], 0) := by
  have : nameN 116 12 = (116 :: digs 12, 0) := rfl
  rw [this, digs12]
theorem parse12 : parseN [116, 49, 50] = some (116, 12) := by
  have := parse_name (k := 116) (id := 12) rfl rfl
  rw [show (12 : Int).toNat = 12 from rfl, digs12] at this
  exact this
theorem parse012 : parseN [116, 48, 49, 50] = none := by
  rw [parse_first, if_neg]
  intro q
  have := q.2.2.1.1
  omega
set_option maxHeartbeats 1000000 in
set_option maxRecDepth 20000 in
theorem alive_any (w : World) (he : EnvL w) : Calls Tryd.prog 10 #[] w fun e w' => e = .returned (.bool true) ∧ Below w.heap.size w w' := by
  have H1 := hid (nameX 116 12 { data := #[116, 49, 50] } 0 (by rw [name12]; rfl) (by omega) w he.1)
  have H2 : Hid (∀ w', Below w.heap.size w w' → Calls Tryd.prog 7 #[.string { data := #[116, 48, 49, 50] }] w' fun e w'' => e = .returned (.tuple #[.int .u8 0, .int .i64 0, .bool false]) ∧ Below w'.heap.size w' w'') := by
    intro w' hb
    have := parse_any [116, 48, 49, 50] (by simp) (by simp) w' (he.up hb)
    rw [parse012] at this
    exact this
  have H3 : Hid (∀ w', Below w.heap.size w w' → Calls Tryd.prog 7 #[.string { data := #[116, 49, 50] }] w' fun e w'' => e = .returned (.tuple #[.int .u8 116, .int .i64 12, .bool true]) ∧ Below w'.heap.size w' w'') := by
    intro w' hb
    have := parse_any [116, 49, 50] (by simp) (by simp) w' (he.up hb)
    rw [parse12] at this
    exact this
  clear he
  go_enter Tryd.func10, Tryd.ntmps10
  go_wp2_with fail
  refine H1.out.mono ?_
  rintro e w1 ⟨rfl, hb1⟩
  go_wp2_with fail
  refine (H2.out w1 hb1).mono ?_
  rintro e w2 ⟨rfl, hb2⟩
  have hb2 := up_trans hb1 hb2
  go_wp2_with fail
  refine (H3.out w2 hb2).mono ?_
  rintro e w3 ⟨rfl, hb3⟩
  have hb3 := up_trans hb2 hb3
  go_wp2_with fail
  refine (num_any _ _).mono ?_
  rintro e w4 ⟨rfl, rfl⟩
  go_wp2_with fail
  go_ret
  exact ⟨rfl, hb3⟩
theorem parR_form (o : Option (Int × Int)) : ∃ (k n : Int) (b : Bool), parR o = .tuple #[.int .u8 k, .int .i64 n, .bool b] := by
  cases o with
  | none => exact ⟨0, 0, false, rfl⟩
  | some q => exact ⟨q.1, q.2, true, rfl⟩
set_option maxHeartbeats 2000000 in
set_option maxRecDepth 20000 in
theorem names_walk (k id : Int) (s : List Int) (hk : 0 ≤ k ∧ k ≤ 255) (hs : ∀ x ∈ s, 0 ≤ x ∧ x ≤ 255) (hm : s.length ≤ 140737488355328) (w : World) (he : EnvL w) : Calls Tryd.prog 3 #[.int .u8 k, .int .i64 id, .string (strOfNums s)] w fun e w' => e = .returned (.bool true) ∧ Below w.heap.size w w' := by
  obtain ⟨pk, pn, pb, hp⟩ := parR_form (parseN s)
  obtain ⟨S, hS⟩ : ∃ S, S = strOfNums (nameN k id).1 := ⟨_, rfl⟩
  obtain ⟨f, hf⟩ : ∃ f, f = (nameN k id).2 := ⟨_, rfl⟩
  have H1 := hid (nameX k id S f (by rw [hS, hf]) hk w he.1)
  have H2 : Hid (∀ w', Calls Tryd.prog 6 #[.int .u8 k, .int .i64 id] w' fun e w'' => e = .returned (.tuple #[.string S, .int .i64 f]) ∧ Below w'.heap.size w' w'') := fun w' => refNameX k id S f (by rw [hS, hf]) hk w'
  have H3 : Hid (∀ w', Below w.heap.size w w' → Calls Tryd.prog 7 #[.string (strOfNums s)] w' fun e w'' => e = .returned (.tuple #[.int .u8 pk, .int .i64 pn, .bool pb]) ∧ Below w'.heap.size w' w'') := by
    intro w' hb
    have := parse_any s hs hm w' (he.up hb)
    rw [hp] at this
    exact this
  have H4 : Hid (∀ w', Calls Tryd.prog 8 #[.string (strOfNums s)] w' fun e w'' => e = .returned (.tuple #[.int .u8 pk, .int .i64 pn, .bool pb]) ∧ Below w'.heap.size w' w'') := by
    intro w'
    have := refParse_any s hs hm w'
    rw [hp] at this
    exact this
  have H5 : Hid (f = 0 → ∀ w', Below w.heap.size w w' → Calls Tryd.prog 7 #[.string S] w' fun e w'' => e = .returned (.tuple #[.int .u8 k, .int .i64 id, .bool true]) ∧ Below w'.heap.size w' w'') := by
    intro h0 w' hb
    by_cases h1 : kindOk k = true
    · by_cases h2 : idOk id = true
      · have e1 : nameN k id = (k :: digs id.toNat, 0) := by unfold nameN; rw [h1, h2]; rfl
        have h3 : 1 ≤ id ∧ id ≤ 2147483647 := by simpa [idOk] using h2
        have hl := digs_len 10 id.toNat (by omega)
        have := parse_any (k :: digs id.toNat) (fun x hx => by rcases List.mem_cons.1 hx with rfl | hx; exact hk; exact digs_oct _ x hx) (by simp only [List.length_cons]; omega) w' (he.up hb)
        rw [parse_name h1 h2] at this
        rw [hS, e1]
        exact this
      · have e1 : nameN k id = ([], 4) := by unfold nameN; rw [h1, (by simpa using h2 : idOk id = false)]; rfl
        rw [e1] at hf
        subst hf
        cases h0
    · have e1 : nameN k id = ([], 22) := by unfold nameN; rw [(by simpa using h1 : kindOk k = false)]; rfl
      rw [e1] at hf
      subst hf
      cases h0
  have H6 : Hid (∀ w', Below w.heap.size w w' → Calls Tryd.prog 10 #[] w' fun e w'' => e = .returned (.bool true) ∧ Below w'.heap.size w' w'') := fun w' hb => alive_any w' (he.up hb)
  clear hf hS hs hm he hp
  generalize strOfNums s = T at *
  by_cases c : f = 0
  · have H7 := hid (H5.out c)
    subst c
    go_enter Tryd.func3, Tryd.ntmps3
    go_wp2_with fail
    refine H1.out.mono ?_
    rintro e w1 ⟨rfl, hb1⟩
    go_wp2_with fail
    refine (H2.out w1).mono ?_
    rintro e w2 ⟨rfl, hb2⟩
    have hb2 := up_trans hb1 hb2
    go_wp2_with fail
    refine (H3.out w2 hb2).mono ?_
    rintro e w3 ⟨rfl, hb3⟩
    have hb3 := up_trans hb2 hb3
    go_wp2_with fail
    refine (H4.out w3).mono ?_
    rintro e w4 ⟨rfl, hb4⟩
    have hb4 := up_trans hb3 hb4
    go_wp2_with fail
    refine (num_any _ _).mono ?_
    rintro e w5 ⟨rfl, rfl⟩
    go_wp2_with fail
    refine (H7.out w5 hb4).mono ?_
    rintro e w6 ⟨rfl, hb6⟩
    have hb6 := up_trans hb4 hb6
    go_wp2_with fail
    refine (H6.out w6 hb6).mono ?_
    rintro e w7 ⟨rfl, hb7⟩
    have hb7 := up_trans hb6 hb7
    go_wp2_with fail
    go_ret
    exact ⟨rfl, hb7⟩
  · have cb : (f == 0) = false := by simpa using c
    clear H5
    go_enter Tryd.func3, Tryd.ntmps3
    go_wp2_with fail
    refine H1.out.mono ?_
    rintro e w1 ⟨rfl, hb1⟩
    go_wp2_with fail
    refine (H2.out w1).mono ?_
    rintro e w2 ⟨rfl, hb2⟩
    have hb2 := up_trans hb1 hb2
    go_wp2_with fail
    refine (H3.out w2 hb2).mono ?_
    rintro e w3 ⟨rfl, hb3⟩
    have hb3 := up_trans hb2 hb3
    go_wp2_with fail
    refine (H4.out w3).mono ?_
    rintro e w4 ⟨rfl, hb4⟩
    have hb4 := up_trans hb3 hb4
    go_wp2_with fail
    refine (num_any _ _).mono ?_
    rintro e w5 ⟨rfl, rfl⟩
    go_wp2_with fail
    refine (H6.out w5 hb4).mono ?_
    rintro e w7 ⟨rfl, hb7⟩
    have hb7 := up_trans hb4 hb7
    go_wp2_with fail
    go_ret
    exact ⟨rfl, hb7⟩
end Go.Proofs.YtnchjlimkgbfpaaDoor
