
import Derived.Test.YtnchjlimkgbfpaaGreatDoorE12
namespace Go.Proofs.YtnchjlimkgbfpaaGreatDoor
open Go.RowKit
set_option linter.unusedVariables false
set_option maxRecDepth 20000
set_option linter.unusedSimpArgs false
theorem made1 (w : World) (x : Int) (hx : 0 ≤ x ∧ x ≤ 255) : (convert 88 9 (.slice (some ⟨w.heap.size, 0, none⟩) 1 1)).run Tryz.prog (w.alloc (.cells #[.int .u8 x] 5)) = .ok (.string (strOfNums [x])) (w.alloc (.cells #[.int .u8 x] 5)) :=
  run_convert_octs [x] _ _ (Octs.made w [x] (by intro y hy; rw [List.mem_singleton] at hy; subst hy; exact hx) (by show 1 ≤ maxLen; decide))
set_option maxHeartbeats 1000000 in
set_option maxRecDepth 20000 in
theorem decimal_any (n : Nat) (hn : n ≤ 2147483647) (w : World) : Calls Tryz.prog 81 #[.int .i64 (n : Int)] w fun e w' => e = .returned (.string (strOfNums (digs n))) ∧ Below w.heap.size w w' := by
  have hs0 : ({ data := #[] } : ByteArray) = strOfNums [] := rfl
  have HD : Hid (digs n ++ [] = digs n) := List.append_nil _
  have HB : Hid (Below w.heap.size w w) := Below.refl _ _
  go_enter Tryz.func81, Tryz.ntmps81
  rw [hs0]
  clear hs0
  go_wp2_with fail
  go_loopw [0, 3] (fun i s wr => ∃ (m : Nat) (t : List Int), m ≤ n ∧ i = .int .i64 (m : Int) ∧ s = .string (strOfNums t) ∧ Hid (digs m ++ t = digs n) ∧ Hid (Below w.heap.size w wr)) (fun i _ _ => (intOf i).toNat)
  case atStart => exact ⟨n, [], Nat.le_refl _, rfl, rfl, HD, HB⟩
  case round =>
    obtain ⟨m, t, hm, rfl, rfl, HM, HW⟩ := hrel
    by_cases h0 : m = 0
    · subst h0
      have HE : Hid (digs n = t) := by unfold Hid; rw [← HM.out, digs_zero]; rfl
      go_wp2_with fail
      go_ret
      rw [HE.out]
      exact ⟨rfl, HW.out⟩
    · have hp : (0 : Int) < (m : Int) := by omega
      have hp2 : 0 < m := by omega
      obtain ⟨x, hxe⟩ : ∃ x : Int, x = 48 + ((m % 10 : Nat) : Int) := ⟨_, rfl⟩
      obtain ⟨q, hqe⟩ : ∃ q : Nat, q = m / 10 := ⟨_, rfl⟩
      have HM2 : Hid (digs q ++ (x :: t) = digs n) := by
        unfold Hid
        rw [← HM.out, digs_pos hp2, hqe, hxe]
        simp
      have hx : 0 ≤ x ∧ x ≤ 255 := by omega
      obtain ⟨r, hre⟩ : ∃ r : Int, r = ((m % 10 : Nat) : Int) := ⟨_, rfl⟩
      have r1 : Int.tmod (m : Int) 10 = r := by
        rw [Int.tmod_eq_emod_of_nonneg (by omega), hre]
        omega
      have r2 : Int.tdiv (m : Int) 10 = (q : Int) := by
        rw [Int.tdiv_eq_ediv_of_nonneg (by omega), hqe]
        omega
      have r3 : (48 : Int) + r = x := by omega
      have hql : q ≤ n := by omega
      have hqm : q < m := by omega
      have r4 : IntKind.u8.wrap x = x := by
        simp [IntKind.wrap, IntKind.bits, IntKind.signed]
        omega
      have r5 : IntKind.i64.wrap x = x := by
        simp [IntKind.wrap, IntKind.bits, IntKind.signed]
        omega
      have hcv := made1 wr x hx
      have hct : strOfNums [x] ++ strOfNums t = strOfNums (x :: t) := str_cat [x] t
      have hz1 : (strOfNums [x]).size = 1 := by rw [str_size]; rfl
      have hz2 : (strOfNums t).size ≤ 10 := by
        have h1 := congrArg List.length HM.out
        have h2 := digs_len 10 n (by omega)
        rw [str_size]
        simp only [List.length_append] at h1
        omega
      generalize strOfNums [x] = S1 at *
      have hb1 : Hid (Below w.heap.size w (wr.alloc (.cells #[.int .u8 x] 5))) := HW.out.alloc HW.out.size _
      have hmq : Hid (q < m) := hqm
      have HQ : Hid (∀ Q : Int, Q = (q : Int) → Q = (q : Int)) := fun _ h => h
      clear hqe hxe hre hm hp2 h0 hqm
      obtain ⟨Q, hQ⟩ : ∃ Q : Int, Q = (q : Int) := ⟨_, rfl⟩
      rw [← hQ] at r2
      obtain ⟨M, hM⟩ : ∃ M : Int, M = (m : Int) := ⟨_, rfl⟩
      rw [← hM] at r1 r2 hp ⊢
      have r6 : Hid (Q = (q : Int) ∧ M = (m : Int)) := ⟨hQ, hM⟩
      have r7 : wrap64 Q = Q := by
        have : q ≤ 2147483647 := by omega
        unfold wrap64
        omega
      clear hQ hM HQ
      go_wp2_with fail
      refine ⟨⟨q, x :: t, hql, ?_, rfl, HM2, hb1⟩, ?_⟩
      · rw [r7, r6.out.1]
      · rw [r7, r6.out.1, r6.out.2]
        have := hmq.out
        simpa [intOf] using this
theorem made2 (W W' : World) (x : Int) (hx : 0 ≤ x ∧ x ≤ 255) (hb : Below (W.alloc (.cells #[.int .u8 x] 5)).heap.size (W.alloc (.cells #[.int .u8 x] 5)) W') : (convert 88 9 (.slice (some ⟨W.heap.size, 0, none⟩) 1 1)).run Tryz.prog W' = .ok (.string (strOfNums [x])) W' :=
  run_convert_octs [x] _ _ ((Octs.made W [x] (by intro y hy; rw [List.mem_singleton] at hy; subst hy; exact hx) (by show 1 ≤ maxLen; decide)).up hb)
set_option maxHeartbeats 1000000 in
set_option maxRecDepth 20000 in
theorem refName_good (k id : Int) (hk : 0 ≤ k ∧ k ≤ 255) (hi : 1 ≤ id ∧ id ≤ 2147483647) (h3 : k = 109 ∨ k = 108 ∨ k = 116) (w : World) : Calls Tryz.prog 41 #[.int .u8 k, .int .i64 id] w fun e w' => e = .returned (.tuple #[.string (strOfNums (k :: digs id.toNat)), .int .i64 0]) ∧ Below w.heap.size w w' := by
  have HD : Hid (∀ W : World, Calls Tryz.prog 81 #[.int .i64 id] W fun e w' => e = .returned (.string (strOfNums (digs id.toNat))) ∧ Below W.heap.size W w') := by
    intro W
    have := decimal_any id.toNat (by omega) W
    rw [show ((id.toNat : Nat) : Int) = id by omega] at this
    exact this
  have hcv : ∀ W : World, (convert 88 9 (.slice (some ⟨W.heap.size, 0, none⟩) 1 1)).run Tryz.prog (W.alloc (.cells #[.int .u8 k] 5)) = .ok (.string (strOfNums [k])) (W.alloc (.cells #[.int .u8 k] 5)) := fun W => made1 W k hk
  have HM : Hid (∀ W W' : World, Below (W.alloc (.cells #[.int .u8 k] 5)).heap.size (W.alloc (.cells #[.int .u8 k] 5)) W' → (convert 88 9 (.slice (some ⟨W.heap.size, 0, none⟩) 1 1)).run Tryz.prog W' = .ok (.string (strOfNums [k])) W') := fun W W' hb => made2 W W' k hk hb
  have hcd : ∀ W : World, (convert 88 9 (.slice (some ⟨W.heap.size, 0, none⟩) 1 1)).run Tryz.prog (W.alloc (.cells #[.int .u8 k] 5)).drew = .ok (.string (strOfNums [k])) (W.alloc (.cells #[.int .u8 k] 5)).drew := fun W => made2 W _ k hk (Below.refl _ _).drew
  have HM2 : Hid (∀ W W' : World, Below (W.alloc (.cells #[.int .u8 k] 5)).drew.heap.size (W.alloc (.cells #[.int .u8 k] 5)).drew W' → (convert 88 9 (.slice (some ⟨W.heap.size, 0, none⟩) 1 1)).run Tryz.prog W' = .ok (.string (strOfNums [k])) W') := fun W W' hb => made2 W W' k hk ((Below.refl _ _).drew.trans hb)
  have hct : strOfNums [k] ++ strOfNums (digs id.toNat) = strOfNums (k :: digs id.toNat) := str_cat [k] _
  have hz1 : (strOfNums [k]).size = 1 := by rw [str_size]; rfl
  have hz2 : (strOfNums (digs id.toNat)).size ≤ 10 := by rw [str_size]; exact digs_len 10 _ (by omega)
  have q1 : decide (id < 1) = false := by simp; omega
  have q2 : decide (2147483647 < id) = false := by simp; omega
  generalize strOfNums [k] = S1 at *
  generalize strOfNums (digs id.toNat) = S2 at *
  generalize strOfNums (k :: digs id.toNat) = S3 at *
  have i1 := hi.1
  have i2 := hi.2
  clear hk
  rcases h3 with rfl | rfl | rfl
  all_goals
    go_enter Tryz.func41, Tryz.ntmps41
    go_wp2_with fail
    go_region_with ((go_at_call 81; refine (HD.out _).mono ?_; rintro e w' ⟨rfl, hb⟩; first | have hcv2 := HM.out _ _ hb | have hcv2 := HM2.out _ _ hb | skip))
    all_goals
      go_wp2_with fail
      go_ret2
      first
        | exact ⟨rfl, up_trans (up_alloc w _) hb⟩
        | exact ⟨rfl, up_trans (up_dr (up_alloc w _)) hb⟩
        | exact ⟨rfl, up_al (up_trans (up_dr (Below.refl _ _)) hb) _⟩
        | exact ⟨rfl, up_al hb _⟩
set_option maxHeartbeats 1000000 in
set_option maxRecDepth 20000 in
theorem refName_any (k id : Int) (hk : 0 ≤ k ∧ k ≤ 255) (w : World) : Calls Tryz.prog 41 #[.int .u8 k, .int .i64 id] w fun e w' => e = .returned (.tuple #[.string (strOfNums (nameN k id).1), .int .i64 (nameN k id).2]) ∧ Below w.heap.size w w' := by
  have HB : Hid (Below w.heap.size w w) := Below.refl _ _
  have hs : strOfNums [] = { data := #[] } := rfl
  by_cases h1 : kindOk k = true
  · have hk3 : k = 109 ∨ k = 108 ∨ k = 116 := by simpa [kindOk] using h1
    by_cases h2 : idOk id = true
    · have e : nameN k id = (k :: digs id.toNat, 0) := by unfold nameN; rw [h1, h2]; rfl
      have h3 : 1 ≤ id ∧ id ≤ 2147483647 := by simpa [idOk] using h2
      rw [e]
      exact refName_good k id hk h3 hk3 w
    · have h2' : idOk id = false := by simpa using h2
      have e : nameN k id = ([], 4) := by unfold nameN; rw [h1, h2']; rfl
      rw [e, hs]
      have h4 : id < 1 ∨ 2147483647 < id := by
        simp only [idOk, Bool.and_eq_false_iff, decide_eq_false_iff_not] at h2'
        omega
      clear e h2 h1 h2' hs hk
      rcases h4 with h4 | h4
      · rcases hk3 with rfl | rfl | rfl
        all_goals
          go_enter Tryz.func41, Tryz.ntmps41
          go_wp2_with fail
          go_ret2
          exact ⟨rfl, HB.out⟩
      · have q1 : decide (id < 1) = false := by simp; omega
        have q2 : ¬ id < 1 := by omega
        rcases hk3 with rfl | rfl | rfl
        all_goals
          go_enter Tryz.func41, Tryz.ntmps41
          go_wp2_with fail
          go_ret2
          exact ⟨rfl, HB.out⟩
  · have h1' : kindOk k = false := by simpa using h1
    have e : nameN k id = ([], 22) := by unfold nameN; rw [h1']; rfl
    have hk3 : ¬ k = 109 ∧ ¬ k = 108 ∧ ¬ k = 116 := by simpa [kindOk] using h1'
    obtain ⟨q1, q2, q3⟩ := hk3
    have r1 : (k != 109) = true := by simpa using q1
    have r1b : (k = 109) = False := by simpa using q1
    have r2 : (k != 108) = true := by simpa using q2
    have r2b : (k = 108) = False := by simpa using q2
    have r3 : (k != 116) = true := by simpa using q3
    have r3b : (k = 116) = False := by simpa using q3
    rw [e, hs]
    clear e h1 h1' hs
    go_enter Tryz.func41, Tryz.ntmps41
    go_wp2_with fail
    go_ret2
    exact ⟨rfl, HB.out⟩
end Go.Proofs.YtnchjlimkgbfpaaGreatDoor
