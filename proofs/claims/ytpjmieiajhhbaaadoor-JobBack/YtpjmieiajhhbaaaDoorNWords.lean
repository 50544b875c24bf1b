/- The document's words. -/
import Derived.Test.YtpjmieiajhhbaaaDoorNField
namespace Go.Proofs.YtpjmieiajhhbaaaDoor
open Go.RowKit
set_option linter.unusedVariables false
set_option linter.unusedSimpArgs false

theorem infoS : (Tryd.prog.info? 9).map (fun i => (i.zero, i.size, i.bytes)) = some (some (.string ⟨#[]⟩), 1, 16) := by kernel_rfl
def srow (s : List Int) : List Value := [.string (strOfNums s)]
/-- Texts as they are read. -/
def TextsW (w : World) (v : Value) (l : List (List Int)) : Prop := Rws 1 w v (l.map srow)
theorem TextsW.up {w w' : World} {v : Value} {l : List (List Int)} (h : TextsW w v l) (hb : Below w.heap.size w w') : TextsW w' v l := Rws.up h hb
theorem TextsW.len {w : World} {v : Value} {l : List (List Int)} (h : TextsW w v l) : ∃ a cap, v = .slice a l.length cap ∧ l.length ≤ cap ∧ cap ≤ maxLen := by
  obtain ⟨a, cap, e, h1, h2⟩ := Rws.len h
  rw [List.length_map] at e h1
  exact ⟨a, cap, e, h1, h2⟩
theorem TextsW.at {w : World} {v : Value} {l : List (List Int)} (h : TextsW w v l) (k : Nat) (hk : k < l.length) : ∃ b off cap, v = .slice (some ⟨b, off, none⟩) l.length cap ∧ w.cell? ⟨b, off + k, none⟩ = some (.string (strOfNums (l.getD k []))) := by
  obtain ⟨b, off, cap, e, _, _, hc⟩ := Rws.at h k (by rw [List.length_map]; exact hk)
  rw [List.length_map] at e
  have hr : (l.map srow).getD k [] = [.string (strOfNums (l.getD k []))] := by simp [List.getD, hk, srow]
  rw [hr] at hc
  have c0 := hc 0 _ rfl
  rw [Nat.mul_one, Nat.add_zero] at c0
  exact ⟨b, off, cap, e, c0⟩
theorem empty_eq (l : List Int) (hx : ∀ x ∈ l, 0 ≤ x ∧ x ≤ 255) : ((strOfNums l).toList == []) = decide (l = []) := by
  have h := str_eq l [] hx (by simp)
  rw [str_list []] at h
  exact h
/-- What a round of the words finds. -/
def WordsAt (l : List Int) (k : Nat) (done : List (List Int)) (cur : List Int) : Prop :=
  done.length ≤ k ∧ cur.length ≤ k ∧ (∀ x ∈ cur, 0 ≤ x ∧ x ≤ 255) ∧ ((k ≤ l.length ∧ done ++ wordsF (l.drop k) cur = wordsL l) ∨ (k = l.length + 1 ∧ done = wordsL l))
set_option maxHeartbeats 2000000 in
set_option maxRecDepth 20000 in
theorem wordsR_any (l : List Int) (hx : ∀ x ∈ l, 0 ≤ x ∧ x ≤ 255) (hm : l.length ≤ 1000000) (w : World) :
    Calls Tryd.prog 48 #[.string (strOfNums l)] w fun e w' => ∃ a n c, e = .returned (.slice a n c) ∧ TextsW w' (.slice a n c) (wordsL l) ∧ Below w.heap.size w w' := by
  have hsz := strOfNums_size l
  have HX := hid hx
  have HM := hid hm
  go_enter Tryd.func48, Tryd.ntmps48
  go_wp2_with fail
  go_loopw [3, 4, 5] (fun o t i wr => ∃ (k : Nat) (done : List (List Int)) (cur : List Int) (a : Option Addr) (n c : Nat), k ≤ l.length + 1 ∧ i = .int .i64 (k : Int) ∧ o = .slice a n c ∧ t = .string (strOfNums cur) ∧ Hid (WordsAt l k done cur) ∧ Hid (OwnR wr w.heap.size 9 1 (.slice a n c) (done.map srow)) ∧ Hid (Below w.heap.size w wr)) (fun _ _ i _ => l.length + 1 - (intOf i).toNat)
  case atStart => exact ⟨0, [], [], none, 0, 0, by omega, rfl, rfl, rfl, ⟨by simp, by simp, by simp, .inl ⟨by omega, rfl⟩⟩, OwnR.nil _ _ _ _, Below.refl _ _⟩
  case round =>
    obtain ⟨k, done, cur, a, n, c, hk, rfl, rfl, rfl, HW, HO, HB⟩ := hrel
    by_cases hle : k ≤ l.length
    · have hle' : (k : Int) ≤ (l.length : Int) := by omega
      obtain ⟨z, hz⟩ : ∃ z, z = decide (cur = []) := ⟨_, rfl⟩
      have ze : ((strOfNums cur).toList == []) = z := (empty_eq cur HW.out.2.2.1).trans hz.symm
      have HZ := hid hz
      clear hz
      have D : Hid (done ++ wordsF (l.drop k) cur = wordsL l) := by
        rcases HW.out.2.2.2 with q | q
        · exact q.2
        · omega
      have hdl : done.length ≤ 1000001 := by have := HW.out.1; omega
      have hcl : cur.length ≤ 1000001 := by have := HW.out.2.1; omega
      -- a word that ends: put, or none
      by_cases hlt : k < l.length ∧ l.getD k 0 ≠ 32
      · obtain ⟨hlt, hne⟩ := hlt
        have hlt' : (k : Int) < (l.length : Int) := by omega
        have hj : k < (strOfNums l).size := by omega
        have hy := str_at l hx k hj
        have hyo : 0 ≤ l.getD k 0 ∧ l.getD k 0 ≤ 255 := hx _ (by simp [List.getD, hlt])
        have ex : (strOfNums l).extract k (k + 1) = strOfNums [l.getD k 0] := by
          rw [str_cut, Nat.add_sub_cancel_left, List.drop_eq_getElem_cons hlt, List.take_succ_cons, List.take_zero]
          simp [List.getD, hlt]
        have ec := str_cat cur [l.getD k 0]
        have sc := strOfNums_size cur
        have s1 := strOfNums_size [l.getD k 0]
        have ed : l.drop k = l.getD k 0 :: l.drop (k + 1) := by
          rw [List.drop_eq_getElem_cons hlt]
          simp [List.getD, hlt]
        have HW2 : Hid (WordsAt l (k + 1) done (cur ++ [l.getD k 0])) := by
          refine ⟨by have := HW.out.1; omega, by have := HW.out.2.1; simp; omega, ?_, .inl ⟨by omega, ?_⟩⟩
          · intro x h
            rcases List.mem_append.1 h with h | h
            · exact HW.out.2.2.1 x h
            · cases List.mem_singleton.1 h
              exact hyo
          · have := D.out
            rw [ed, wordsF_cons, if_neg hne] at this
            exact this
        have t32 : (l.getD k 0 != 32) = true := by simpa using hne
        clear ed hyo hne D
        generalize l.getD k 0 = x at *
        go_wp2
        exact ⟨⟨k + 1, done, cur ++ [x], a, n, c, by omega, by go_num, rfl, by rw [← ec], HW2, HO, HB⟩, by simp [intOf]; omega⟩
      · have HWn1 : Hid (cur = [] → WordsAt l (k + 1) done []) := by
          intro h0
          subst h0
          refine ⟨by have := HW.out.1; omega, by simp, by simp, ?_⟩
          by_cases hk2 : k < l.length
          · left
            refine ⟨by omega, ?_⟩
            have e : l.getD k 0 = 32 := Classical.byContradiction fun q => hlt ⟨hk2, q⟩
            have ed : l.drop k = l.getD k 0 :: l.drop (k + 1) := by
              rw [List.drop_eq_getElem_cons hk2]
              simp [List.getD, hk2]
            have := D.out
            rw [ed, wordsF_cons, if_pos e, if_pos rfl] at this
            exact this
          · right
            have := D.out
            rw [List.drop_of_length_le (by omega)] at this
            exact ⟨by omega, by simpa [wordsF] using this⟩
        have HWn2 : Hid (¬ cur = [] → WordsAt l (k + 1) (done ++ [cur]) []) := by
          intro h0
          refine ⟨by have := HW.out.1; simp; omega, by simp, by simp, ?_⟩
          by_cases hk2 : k < l.length
          · left
            refine ⟨by omega, ?_⟩
            have e : l.getD k 0 = 32 := Classical.byContradiction fun q => hlt ⟨hk2, q⟩
            have ed : l.drop k = l.getD k 0 :: l.drop (k + 1) := by
              rw [List.drop_eq_getElem_cons hk2]
              simp [List.getD, hk2]
            have := D.out
            rw [ed, wordsF_cons, if_pos e, if_neg h0] at this
            rw [← this]
            simp
          · right
            have := D.out
            rw [List.drop_of_length_le (by omega)] at this
            unfold wordsF at this
            rw [if_neg h0] at this
            exact ⟨by omega, this⟩
        have hsize := HB.out.size
        by_cases hk2 : k < l.length
        · have hlt' : (k : Int) < (l.length : Int) := by omega
          have hj : k < (strOfNums l).size := by omega
          have hy := str_at l hx k hj
          rw [show l.getD k 0 = 32 from Classical.byContradiction fun q => hlt ⟨hk2, q⟩] at hy
          clear hlt D HW
          cases z
          · go_wp2_with (at_builtin; refine wpList_append_row _ rfl _ _ 71 9 (.string ⟨#[]⟩) 1 16 rfl Tryd.underlying71 infoS rfl (by decide) w.heap.size _ (done.map srow) rfl HO.out (srow cur) _ _ rfl rfl rfl rfl ?o1 ?c1 ?c2 ?c3 ?_)
            try case o1 =>
              intro u hu
              cases List.mem_singleton.1 hu
              rfl
            try case c1 => (simp only [List.length_map]; omega)
            try case c2 => (simp only [List.length_map, maxLen]; omega)
            try case c3 => exact hsize
            intro v' w3 hown hb3
            have HB3 : Hid (Below w.heap.size w w3) := HB.out.trans hb3
            have HO3 : Hid (OwnR w3 w.heap.size 9 1 v' ((done ++ [cur]).map srow)) := by
              rw [List.map_append]
              exact hown
            obtain ⟨a', c', e', _, _⟩ := (Rws.own HO3.out : Rws 1 w3 v' _).len
            rw [List.length_map] at e'
            obtain ⟨n', hn'⟩ : ∃ n', n' = (done ++ [cur]).length := ⟨_, rfl⟩
            rw [← hn'] at e'
            subst e'
            clear hown hb3 hn'
            go_wp2
            exact ⟨⟨_, done ++ [cur], [], a', n', c', by omega, by go_num, rfl, rfl, HWn2.out (of_decide_eq_false HZ.out.symm), HO3, HB3⟩, by simp [intOf]; omega⟩
          · go_wp2
            exact ⟨⟨_, done, [], a, n, c, by omega, by go_num, rfl, rfl, HWn1.out (of_decide_eq_true HZ.out.symm), HO, HB⟩, by simp [intOf]; omega⟩
        · have hlt' : ¬ (k : Int) < (l.length : Int) := by omega
          clear hlt D HW
          cases z
          · go_wp2_with (at_builtin; refine wpList_append_row _ rfl _ _ 71 9 (.string ⟨#[]⟩) 1 16 rfl Tryd.underlying71 infoS rfl (by decide) w.heap.size _ (done.map srow) rfl HO.out (srow cur) _ _ rfl rfl rfl rfl ?o2 ?d1 ?d2 ?d3 ?_)
            try case o2 =>
              intro u hu
              cases List.mem_singleton.1 hu
              rfl
            try case d1 => (first | omega | (simp only [List.length_map]; omega))
            try case d2 => (first | omega | (unfold maxLen; omega) | (simp only [List.length_map, maxLen]; omega))
            try case d3 => exact hsize
            intro v' w3 hown hb3
            have HB3 : Hid (Below w.heap.size w w3) := HB.out.trans hb3
            have HO3 : Hid (OwnR w3 w.heap.size 9 1 v' ((done ++ [cur]).map srow)) := by
              rw [List.map_append]
              exact hown
            obtain ⟨a', c', e', _, _⟩ := (Rws.own HO3.out : Rws 1 w3 v' _).len
            rw [List.length_map] at e'
            obtain ⟨n', hn'⟩ : ∃ n', n' = (done ++ [cur]).length := ⟨_, rfl⟩
            rw [← hn'] at e'
            subst e'
            clear hown hb3 hn'
            go_wp2
            exact ⟨⟨_, done ++ [cur], [], a', n', c', by omega, by go_num, rfl, rfl, HWn2.out (of_decide_eq_false HZ.out.symm), HO3, HB3⟩, by simp [intOf]; omega⟩
          · go_wp2
            exact ⟨⟨_, done, [], a, n, c, by omega, by go_num, rfl, rfl, HWn1.out (of_decide_eq_true HZ.out.symm), HO, HB⟩, by simp [intOf]; omega⟩
    · have hle' : ¬ (k : Int) ≤ (l.length : Int) := by omega
      have E : Hid (done = wordsL l) := by
        rcases HW.out.2.2.2 with q | q
        · exact absurd q.1 hle
        · exact q.2
      go_wp2
      go_ret
      refine ⟨a, n, c, rfl, ?_, HB.out⟩
      rw [← E.out]
      exact Rws.own HO.out
end Go.Proofs.YtpjmieiajhhbaaaDoor
