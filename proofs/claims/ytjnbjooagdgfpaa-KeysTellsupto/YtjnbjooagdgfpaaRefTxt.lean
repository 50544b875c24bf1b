/- The document's text: for any octets it returns what the plain function 'txt' says. -/
import Derived.Test.YtjnbjooagdgfpaaTxt
namespace Go.Proofs.Ytjnbjooagdgfpaa
open Go.RowKit
set_option linter.unusedVariables false

set_option maxHeartbeats 2000000 in
theorem refText_any (s : List Int) (hs : ∀ x ∈ s, 0 ≤ x ∧ x ≤ 255) (hm : s.length ≤ 35184372088832) (w : World) :
    Calls Try.prog 26 #[.string (strOfNums s)] w fun e w' => e = .returned (.tuple #[.string (strOfNums (txt [] 0 s).1), .int .i64 (txt [] 0 s).2.1, .int .i64 (txt [] 0 s).2.2]) ∧ Below w.heap.size w w' := by
  have hsz := str_size s
  go_enter Try.func26, Try.ntmps26
  go_wp2
  go_loopw [5, 6] (fun vb i wr => ∃ (k : Nat) (a : List Int), k ≤ s.length ∧ i = .int .i64 k ∧ Hid (OwnB wr w.heap.size vb a) ∧ Hid (∀ x ∈ a, 0 ≤ x ∧ x ≤ 255) ∧ a.length ≤ k ∧ Hid (txt a k (s.drop k) = txt [] 0 s) ∧ Hid (Below w.heap.size w wr)) (fun _ i _ => s.length - (intOf i).toNat)
  case atStart => exact ⟨0, [], Nat.zero_le _, rfl, OwnB.nil _ _, (fun x hx => by cases hx), by simp, rfl, Below.refl _ _⟩
  case round =>
    obtain ⟨k, a, hk, rfl, HW, HO, hal, HT, HB⟩ := hrel
    have hzr := HB.out.size
    by_cases hlt : k < s.length
    · have hks : k < (strOfNums s).size := by omega
      have hy := str_at s hs k hks
      have hyb : 0 ≤ s.getD k 0 ∧ s.getD k 0 ≤ 255 := hs _ (by simp [List.getD, hlt])
      have HD : Hid (s.drop k = s.getD k 0 :: s.drop (k + 1)) := drop_getD s k hlt
      generalize s.getD k 0 = y at *
      by_cases c : y = 0
      · subst c
        by_cases hlt2 : k + 1 < s.length
        · have hks2 : k + 1 < (strOfNums s).size := by omega
          have hz := str_at s hs (k + 1) hks2
          have hzb : 0 ≤ s.getD (k + 1) 0 ∧ s.getD (k + 1) 0 ≤ 255 := hs _ (by simp [List.getD, hlt2])
          have HD2 : Hid (s.drop (k + 1) = s.getD (k + 1) 0 :: s.drop (k + 1 + 1)) := drop_getD s (k + 1) hlt2
          generalize s.getD (k + 1) 0 = z at *
          have ne : ¬ ((s.length : Int) ≤ (k : Int) + 1) := by omega
          by_cases d1 : z = 1
          · subst d1
            have HE : Hid (txt [] 0 s = (a, k + 2, 0)) := by unfold Hid; rw [← HT.out, HD.out, HD2.out, txt_end]
            have kc := run_convert_octs a _ _ (Octs.own HW.out HO.out)
            go_wp2
            go_ret3
            rw [HE.out]
            exact ⟨rfl, HB.out⟩
          · have d1b : (z == 1) = false := by simp [d1]
            by_cases d2 : z = 255
            · subst d2
              have HT2 : Hid (txt (a ++ [0]) (k + 2) (s.drop (k + 2)) = txt [] 0 s) := by unfold Hid; rw [← HT.out, HD.out, HD2.out, txt_zero]
              go_wp2_with (at_builtin; refine wpList_append_lits _ rfl _ _ rfl w.heap.size _ a rfl HW.out [0] 1 _ rfl rfl ?cs ?c1 ?c2 ?c3 ?_)
              try case cs => rfl
              try case c1 => decide
              try case c2 => (try simp); omega
              try case c3 => omega
              intro v1 w1 ho1 hb1
              have HB1 : Hid (Below w.heap.size w w1) := HB.out.trans hb1
              have HW1 : Hid (OwnB w1 w.heap.size v1 (a ++ [0])) := ho1
              have HO1 : Hid (∀ x ∈ a ++ [0], 0 ≤ x ∧ x ≤ 255) := by
                intro x hx
                rcases List.mem_append.1 hx with h | h
                · exact HO.out x h
                · simp at h; omega
              have hal1 : (a ++ [0]).length ≤ k + 2 := by simp; omega
              clear ho1 hb1 HW HB HT HD HD2 HO
              go_wp2
              exact ⟨⟨k + 2, a ++ [0], by omega, by go_num, HW1, HO1, hal1, HT2, HB1⟩, by simp [intOf]; omega⟩
            · have d2b : (z == 255) = false := by simp [d2]
              have HE : Hid (txt [] 0 s = ([], 0, 1)) := by unfold Hid; rw [← HT.out, HD.out, HD2.out, txt_bad _ _ _ _ d1 d2]
              go_wp2
              go_ret3
              rw [HE.out]
              exact ⟨rfl, HB.out⟩
        · have ne : ((s.length : Int) ≤ (k : Int) + 1) := by omega
          have HE : Hid (txt [] 0 s = ([], 0, 8)) := by
            unfold Hid
            rw [← HT.out, HD.out, List.drop_eq_nil_iff.2 (by omega)]
            rfl
          go_wp2
          go_ret3
          rw [HE.out]
          exact ⟨rfl, HB.out⟩
      · have cb : (y == 0) = false := by simp [c]
        have HT2 : Hid (txt (a ++ [y]) (k + 1) (s.drop (k + 1)) = txt [] 0 s) := by unfold Hid; rw [← HT.out, HD.out, txt_plain _ _ _ _ c]
        go_wp2_with (at_builtin; refine wpList_append_lits _ rfl _ _ rfl w.heap.size _ a rfl HW.out [y] 1 _ rfl rfl ?csB ?c1B ?c2B ?c3B ?_)
        try case csB => rfl
        try case c1B => simp; omega
        try case c2B => (try simp); omega
        try case c3B => omega
        intro v1 w1 ho1 hb1
        have HB1 : Hid (Below w.heap.size w w1) := HB.out.trans hb1
        have HW1 : Hid (OwnB w1 w.heap.size v1 (a ++ [y])) := ho1
        have HO1 : Hid (∀ x ∈ a ++ [y], 0 ≤ x ∧ x ≤ 255) := by
          intro x hx
          rcases List.mem_append.1 hx with h | h
          · exact HO.out x h
          · simp at h; omega
        have hal1 : (a ++ [y]).length ≤ k + 1 := by simp; omega
        clear ho1 hb1 HW HB HT HD HO
        go_wp2
        exact ⟨⟨k + 1, a ++ [y], by omega, by go_num, HW1, HO1, hal1, HT2, HB1⟩, by simp [intOf]; omega⟩
    · have HE : Hid (txt [] 0 s = ([], 0, 8)) := by
        unfold Hid
        rw [← HT.out, List.drop_eq_nil_iff.2 (by omega)]
        rfl
      go_wp2
      go_ret3
      rw [HE.out]
      exact ⟨rfl, HB.out⟩
end Go.Proofs.Ytjnbjooagdgfpaa
