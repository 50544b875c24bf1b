/- Bare over any octets; Guard and Bare of the document; that the page's example is alive. -/
import Derived.Test.YtibjjhceiohmeaaSBare
import Derived.Lib.SlBytesConst
namespace Go.Proofs.Ytibjjhceiohmeaa
open Go.RowKit SumPlain
set_option linter.unusedVariables false

theorem OwnB.mono {w : World} {base base' : Nat} {v : Value} {l : List Int} (h : OwnB w base v l) (hb : base' ≤ base) : OwnB w base' v l := by
  obtain ⟨h1, h2⟩ := h
  refine ⟨h1, ?_⟩
  rcases h2 with h0 | ⟨g, cap, cur, rfl, hg, r⟩
  · exact .inl h0
  · exact .inr ⟨g, cap, cur, rfl, Nat.le_trans hb hg, r⟩

theorem split_four (l : List Int) (h : 4 ≤ l.length) : ∃ y0 y1 y2 y3, l = l.take (l.length - 4) ++ [y0, y1, y2, y3] ∧ l.drop (l.length - 4) = [y0, y1, y2, y3] := by
  have e : (l.drop (l.length - 4)).length = 4 := by rw [List.length_drop]; omega
  match hd : l.drop (l.length - 4) with
  | [y0, y1, y2, y3] => exact ⟨y0, y1, y2, y3, by rw [← hd, List.take_append_drop], rfl⟩
  | [] => rw [hd] at e; simp at e
  | [_] => rw [hd] at e; simp at e
  | [_, _] => rw [hd] at e; simp at e
  | [_, _, _] => rw [hd] at e; simp at e
  | _ :: _ :: _ :: _ :: _ :: _ => rw [hd] at e; simp at e

/-- Bare, said of the octets ahead and the last four. -/
theorem bareOf_long (l : List Int) (h : 4 ≤ l.length) (y : List Int) (hy : l.drop (l.length - 4) = y) :
    bareOf l = (if y = lastL (ext ones (l.take (l.length - 4))) then l.take (l.length - 4) else [], if y = lastL (ext ones (l.take (l.length - 4))) then 0 else 21) := by
  unfold bareOf
  rw [if_neg (by omega), hy]
  by_cases c : y = lastL (ext ones (l.take (l.length - 4)))
  · rw [if_pos c, if_pos c, if_pos c]
  · rw [if_neg c, if_neg c, if_neg c]

theorem bareOf_short (l : List Int) (h : ¬ 4 ≤ l.length) : bareOf l = ([], 8) := by
  unfold bareOf
  rw [if_pos (by omega)]

theorem bareOf_octet (l : List Int) (h : ∀ x ∈ l, 0 ≤ x ∧ x ≤ 255) : ∀ x ∈ (bareOf l).1, 0 ≤ x ∧ x ≤ 255 := by
  intro x hx
  by_cases c : 4 ≤ l.length
  · rw [bareOf_long l c _ rfl] at hx
    simp only at hx
    split at hx
    · exact h x (List.mem_of_mem_take hx)
    · cases hx
  · rw [bareOf_short l c] at hx
    cases hx

set_option maxHeartbeats 400000 in
theorem bare_short (l : List Int) (a : Option Addr) (cap : Nat) (w : World) (h : ¬ 4 ≤ l.length) :
    Calls Try.prog 30 #[.slice a l.length cap] w fun e w' => ∃ v', e = .returned (.tuple #[v', .int .i64 8]) ∧ OwnB w' w.heap.size v' [] ∧ Below w.heap.size w w' := by
  have hlt : (l.length : Int) - 4 < 0 := by omega
  have hlt2 : (l.length : Int) < 4 := by omega
  go_enter Try.func30, Try.ntmps30
  go_wp2
  go_ret2
  exact ⟨_, rfl, OwnB.nil _ _, Below.refl _ _⟩

theorem bare_any (l : List Int) (v : Value) (w : World) (hv : Octs w v l) (hl : l.length ≤ 140737488355328) :
    Calls Try.prog 30 #[v] w fun e w' => ∃ v', e = .returned (.tuple #[v', .int .i64 (bareOf l).2]) ∧ OwnB w' w.heap.size v' (bareOf l).1 ∧ Below w.heap.size w w' := by
  by_cases c : 4 ≤ l.length
  · obtain ⟨y0, y1, y2, y3, h1, h2⟩ := split_four l c
    rw [bareOf_long l c _ h2]
    obtain ⟨b, off, cap, rfl, hc, hm, _⟩ := hv.at 0 (by omega)
    have hp : (l.take (l.length - 4)).length = l.length - 4 := by rw [List.length_take]; omega
    rw [h1] at hv
    have ht : (l.take (l.length - 4) ++ [y0, y1, y2, y3]).length = l.length := by rw [← h1]
    rw [ht] at hv
    exact bare_long (l.take (l.length - 4)) y0 y1 y2 y3 b off cap l.length w (by omega) hv hc hm hl
  · rw [bareOf_short l c]
    obtain ⟨a, cap, rfl, _, _⟩ := hv.len
    exact bare_short l a cap w c

set_option maxHeartbeats 1000000 in
theorem refGuard_any (l : List Int) (v : Value) (w : World) (hv : Octs w v l) (hl : l.length ≤ 140737488351232) :
    Calls Try.prog 29 #[v] w fun e w' => ∃ v', e = .returned v' ∧ OwnB w' w.heap.size v' (guardOf l) ∧ Below w.heap.size w w' := by
  have HV : Hid (Octs w v l) := hv
  clear hv
  go_enter Try.func29, Try.ntmps29
  go_wp2_with fail
  refine (refSum_any l _ _ HV.out).mono ?_
  rintro e w1 ⟨rfl, rfl⟩
  go_wp2_with fail
  refine (copied_any l _ _ HV.out (by omega)).mono ?_
  rintro e w2 ⟨v2, rfl, hown2, hb2⟩
  have HOwn2 : Hid (OwnB w2 w1.heap.size v2 l) := hown2
  have hs2 := hb2.size
  have HG : Hid (guardOf l = l ++ lastL (ext ones l)) := rfl
  clear hown2
  generalize ext ones l = c at *
  have hu := u32_of c
  have H0 : Hid ((c.toNat : Int) / 16777216 = (c.toNat : Int) / 16777216 % 256) := by unfold Hid; omega
  go_wp2_with (at_builtin; refine wpList_append_lits _ rfl _ _ rfl w1.heap.size _ l rfl HOwn2.out (lastL c) 4 _ rfl rfl ?cs ?c1 ?c2 ?c3 ?_)
  try case cs => (unfold lastL; rw [← H0.out]; rfl)
  try case c1 => exact lastL_octet c
  try case c2 => (rw [lastL_len]; omega)
  try case c3 => exact hs2
  intro v3 w3 hown3 hb3
  go_wp2
  go_ret
  refine ⟨_, rfl, ?_, ?_⟩
  · rw [HG.out]; exact hown3
  · exact hb2.trans hb3

set_option maxHeartbeats 1000000 in
set_option maxRecDepth 4000 in
theorem refBare_long (p : List Int) (y0 y1 y2 y3 : Int) (b off cap n : Nat) (w : World) (hn : n = p.length + 4) (hv : Octs w (.slice (some ⟨b, off, none⟩) n cap) (p ++ [y0, y1, y2, y3])) (hc : n ≤ cap) (hm : cap ≤ maxLen) (hl : n ≤ 140737488351232) :
    Calls Try.prog 33 #[.slice (some ⟨b, off, none⟩) n cap] w fun e w' => ∃ v', e = .returned (.tuple #[v', .int .i64 (if [y0, y1, y2, y3] = lastL (ext ones p) then 0 else 21)]) ∧ OwnB w' w.heap.size v' (if [y0, y1, y2, y3] = lastL (ext ones p) then p else []) ∧ Below w.heap.size w w' := by
  have HP : Hid (Octs w (.slice (some ⟨b, off, none⟩) p.length cap) p) := hv.front rfl (by simp [hn])
  have HV : Hid (Octs w (.slice (some ⟨b, off, none⟩) n cap) (p ++ [y0, y1, y2, y3])) := hv
  have HS : Hid (((strOfNums (guardOf p)).toList == (strOfNums (p ++ [y0, y1, y2, y3])).toList) = decide ([y0, y1, y2, y3] = lastL (ext ones p))) := by
    unfold Hid
    rw [str_eq _ _ (guard_octet p HP.out.1) hv.1, decide_eq_decide]
    unfold guardOf
    rw [List.append_cancel_left_eq]
    exact eq_comm
  clear hv
  subst hn
  unfold maxLen at hm
  have g1 : (0 : Int) ≤ (p.length : Int) := by omega
  have g2 : (p.length : Int) ≤ (cap : Int) := by omega
  have g3 : ((p.length + 4 : Nat) : Int) ≤ (cap : Int) := by omega
  have g4 : (p.length : Int) + 4 ≤ (cap : Int) := by omega
  have g5 : (p.length : Int) ≤ (p.length : Int) + 4 := by omega
  have g8 : ¬ (p.length : Int) + 4 < 4 := by omega
  have HC : Hid (∀ wx, Below w.heap.size w wx → (convert 23 9 (.slice (some ⟨b, off, none⟩) (p.length + 4) cap)).run Try.prog wx = .ok (.string (strOfNums (p ++ [y0, y1, y2, y3]))) wx) := fun wx hb => run_convert_octs _ _ _ (HV.out.up hb)
  by_cases c : [y0, y1, y2, y3] = lastL (ext ones p)
  · have hs := HS.out
    rw [decide_eq_true c] at hs
    rw [if_pos c, if_pos c]
    clear c
    have kb := HC.out w.drew (up_dr (Below.refl _ _))
    go_enter Try.func33, Try.ntmps33
    go_wp2_with fail
    go_region_with (first
      | (go_at_call 29; refine (refGuard_any p _ _ (HP.out.up (up_dr (Below.refl _ _))) (by omega)).mono ?_; rintro e w2 ⟨v2, rfl, hown2, hb2⟩; have kg := run_convert_octs (guardOf p) v2 w2 (Octs.own hown2 (guard_octet p HP.out.1)); have kc := HC.out w2 (up_trans (up_dr (Below.refl _ _)) hb2)))
    all_goals
      have up2 : Hid (Below w.heap.size w w2) := up_trans (up_dr (Below.refl _ _)) hb2
      clear kg kc hown2 hb2
      go_wp2_with fail
      refine (copied_any p _ _ (HP.out.up up2.out) (by omega)).mono ?_
      rintro e w3 ⟨v3, rfl, hown3, hb3⟩
      go_wp2
      go_ret2
      exact ⟨_, rfl, hown3.mono up2.out.size, up_trans up2.out hb3⟩
  · have hs := HS.out
    rw [decide_eq_false c] at hs
    rw [if_neg c, if_neg c]
    clear c
    have kb := HC.out w.drew (up_dr (Below.refl _ _))
    go_enter Try.func33, Try.ntmps33
    go_wp2_with fail
    go_region_with (first
      | (go_at_call 29; refine (refGuard_any p _ _ (HP.out.up (up_dr (Below.refl _ _))) (by omega)).mono ?_; rintro e w2 ⟨v2, rfl, hown2, hb2⟩; have kg := run_convert_octs (guardOf p) v2 w2 (Octs.own hown2 (guard_octet p HP.out.1)); have kc := HC.out w2 (up_trans (up_dr (Below.refl _ _)) hb2)))
    all_goals
      go_wp2
      go_ret2
      exact ⟨_, rfl, OwnB.nil _ _, up_trans (up_dr (Below.refl _ _)) hb2⟩

set_option maxHeartbeats 400000 in
theorem refBare_short (l : List Int) (a : Option Addr) (cap : Nat) (w : World) (h : ¬ 4 ≤ l.length) :
    Calls Try.prog 33 #[.slice a l.length cap] w fun e w' => ∃ v', e = .returned (.tuple #[v', .int .i64 8]) ∧ OwnB w' w.heap.size v' [] ∧ Below w.heap.size w w' := by
  have hlt2 : (l.length : Int) < 4 := by omega
  go_enter Try.func33, Try.ntmps33
  go_wp2
  go_ret2
  exact ⟨_, rfl, OwnB.nil _ _, Below.refl _ _⟩

theorem refBare_any (l : List Int) (v : Value) (w : World) (hv : Octs w v l) (hl : l.length ≤ 140737488351232) :
    Calls Try.prog 33 #[v] w fun e w' => ∃ v', e = .returned (.tuple #[v', .int .i64 (bareOf l).2]) ∧ OwnB w' w.heap.size v' (bareOf l).1 ∧ Below w.heap.size w w' := by
  by_cases c : 4 ≤ l.length
  · obtain ⟨y0, y1, y2, y3, h1, h2⟩ := split_four l c
    rw [bareOf_long l c _ h2]
    obtain ⟨b, off, cap, rfl, hc, hm, _⟩ := hv.at 0 (by omega)
    have hp : (l.take (l.length - 4)).length = l.length - 4 := by rw [List.length_take]; omega
    rw [h1] at hv
    have ht : (l.take (l.length - 4) ++ [y0, y1, y2, y3]).length = l.length := by rw [← h1]
    rw [ht] at hv
    exact refBare_long (l.take (l.length - 4)) y0 y1 y2 y3 b off cap l.length w (by omega) hv hc hm hl
  · rw [bareOf_short l c]
    obtain ⟨a, cap, rfl, _, _⟩ := hv.len
    exact refBare_short l a cap w c

theorem own_len {w : World} {base : Nat} {v : Value} {l : List Int} (h : OwnB w base v l) : ∃ a cap, v = .slice a l.length cap ∧ l.length ≤ cap := by
  obtain ⟨_, h⟩ := h
  rcases h with ⟨rfl, h0⟩ | ⟨g, cap, cur, rfl, _, _, hn, _⟩
  · exact ⟨none, 0, by rw [h0], by omega⟩
  · exact ⟨_, cap, rfl, hn⟩

theorem sum_nine : ext ones [49, 50, 51, 52, 53, 54, 55, 56, 57] = 58124007#32 := by decide +kernel

end Go.Proofs.Ytibjjhceiohmeaa
