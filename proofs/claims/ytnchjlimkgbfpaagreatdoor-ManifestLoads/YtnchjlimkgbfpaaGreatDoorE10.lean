/- The texts SBare, SBareAny, FPut, FBlk, in this order. -/
import Derived.Test.YtnchjlimkgbfpaaGreatDoorE09
import Derived.ChangeKeysEq
import Derived.Lib.SlBytesConst
import Derived.Test.YtnchjlimkgbfpaaGreatDoorE07
import Derived.Test.YtnchjlimkgbfpaaGreatDoorE02

namespace Go.Proofs.YtnchjlimkgbfpaaGreatDoor
open Go.RowKit SumPlain
set_option linter.unusedVariables false
set_option maxRecDepth 20000
theorem Octs.front {w : World} {b off cap n : Nat} {l p q : List Int} (h : Octs w (.slice (some ⟨b, off, none⟩) n cap) l) (hl : l = p ++ q) (hn : n = l.length) : Octs w (.slice (some ⟨b, off, none⟩) p.length cap) p := by
  subst hl
  subst hn
  obtain ⟨hx, h⟩ := h
  refine ⟨fun x hp => hx x (List.mem_append_left _ hp), ?_⟩
  by_cases c : p = []
  · subst c
    exact .inl ⟨rfl, _, _, rfl, fun h => by cases h⟩
  · rcases h with ⟨h0, _⟩ | ⟨hn, b', off', cap', e, hc, hm, hj⟩
    · simp at h0; exact absurd h0.1 c
    · simp at e
      obtain ⟨⟨rfl, rfl⟩, rfl⟩ := e
      rw [List.length_append] at hc
      refine .inr ⟨c, b, off, cap, rfl, by omega, hm, fun j x hjx => hj j x ?_⟩
      rw [List.getElem?_append_left (List.getElem?_eq_some_iff.1 hjx).1]
      exact hjx
theorem part_u8 (w : World) (xs : Array Value) (j : Nat) (v : Value) (h : xs[j]? = some v) : (part 5 xs j).run Tryz.prog w = .ok v w := run_part_plain w (by kernel_rfl) h
theorem cells_u8 : Tryz.prog.cellsOf 5 = 1 := by kernel_rfl
theorem eq_four (y0 y1 y2 y3 x0 x1 x2 x3 : Int) (w : World) :
    (Op.equalIn 10000 241 (.agg #[.int .u8 y0, .int .u8 y1, .int .u8 y2, .int .u8 y3]) (.agg #[.int .u8 x0, .int .u8 x1, .int .u8 x2, .int .u8 x3])).run Tryz.prog w = .ok (decide ([y0, y1, y2, y3] = [x0, x1, x2, x3])) w := by
  obtain ⟨i0, hi, _⟩ := info_some Tryz.info5
  have e := run_equalIn_array w 9999 #[.int .u8 y0, .int .u8 y1, .int .u8 y2, .int .u8 y3] #[.int .u8 x0, .int .u8 x1, .int .u8 x2, .int .u8 x3] Tryz.underlying241 hi
  refine e.trans ?_
  clear e
  rw [cells_u8]
  have r : List.range 4 = [0, 1, 2, 3] := rfl
  have q : ∀ (a b : Int), (Op.equalIn 9999 5 (.int .u8 a) (.int .u8 b)).run Tryz.prog w = .ok (a == b) w := fun a b => run_equalIn_int w 9998 5 .u8 .u8 a b Tryz.underlying5
  rw [r]
  have p0 := part_u8 w #[.int .u8 y0, .int .u8 y1, .int .u8 y2, .int .u8 y3] 0 (.int .u8 y0) rfl
  have p1 := part_u8 w #[.int .u8 y0, .int .u8 y1, .int .u8 y2, .int .u8 y3] 1 (.int .u8 y1) rfl
  have p2 := part_u8 w #[.int .u8 y0, .int .u8 y1, .int .u8 y2, .int .u8 y3] 2 (.int .u8 y2) rfl
  have p3 := part_u8 w #[.int .u8 y0, .int .u8 y1, .int .u8 y2, .int .u8 y3] 3 (.int .u8 y3) rfl
  have q0 := part_u8 w #[.int .u8 x0, .int .u8 x1, .int .u8 x2, .int .u8 x3] 0 (.int .u8 x0) rfl
  have q1 := part_u8 w #[.int .u8 x0, .int .u8 x1, .int .u8 x2, .int .u8 x3] 1 (.int .u8 x1) rfl
  have q2 := part_u8 w #[.int .u8 x0, .int .u8 x1, .int .u8 x2, .int .u8 x3] 2 (.int .u8 x2) rfl
  have q3 := part_u8 w #[.int .u8 x0, .int .u8 x1, .int .u8 x2, .int .u8 x3] 3 (.int .u8 x3) rfl
  generalize (#[.int .u8 y0, .int .u8 y1, .int .u8 y2, .int .u8 y3] : Array Value) = Y at *
  generalize (#[.int .u8 x0, .int .u8 x1, .int .u8 x2, .int .u8 x3] : Array Value) = X at *
  simp only [Op.eqItems, Sem.run_bind, Nat.mul_one, p0, q0, q, Result.andThen_ok]
  by_cases c0 : y0 = x0
  · by_cases c1 : y1 = x1
    · by_cases c2 : y2 = x2
      · by_cases c3 : y3 = x3
        · simp [p1, p2, p3, q1, q2, q3, q, c0, c1, c2, c3]
        · simp [p1, p2, p3, q1, q2, q3, q, c0, c1, c2, c3]
      · simp [p1, p2, q1, q2, q, c0, c1, c2]
    · simp [p1, q1, q, c0, c1]
  · simp [c0]
set_option maxHeartbeats 1000000 in
theorem bare_long (p : List Int) (y0 y1 y2 y3 : Int) (b off cap n : Nat) (w : World) (hn : n = p.length + 4) (hv : Octs w (.slice (some ⟨b, off, none⟩) n cap) (p ++ [y0, y1, y2, y3])) (hc : n ≤ cap) (hm : cap ≤ maxLen) (hl : n ≤ 140737488355328) :
    Calls Tryz.prog 132 #[.slice (some ⟨b, off, none⟩) n cap] w fun e w' => ∃ v', e = .returned (.tuple #[v', .int .i64 (if [y0, y1, y2, y3] = lastL (ext ones p) then 0 else 21)]) ∧ OwnB w' w.heap.size v' (if [y0, y1, y2, y3] = lastL (ext ones p) then p else []) ∧ Below w.heap.size w w' := by
  have HV : Hid (Octs w (.slice (some ⟨b, off, none⟩) n cap) (p ++ [y0, y1, y2, y3])) := hv
  have HP : Hid (Octs w (.slice (some ⟨b, off, none⟩) p.length cap) p) := hv.front rfl (by simp [hn])
  have hcell : ∀ j x, [y0, y1, y2, y3][j]? = some x → w.cell? ⟨b, off + (p.length + j), none⟩ = some (.int .u8 x) := by
    intro j x hj
    rcases hv.2 with ⟨h0, _⟩ | ⟨_, b', off', cap', e, _, _, hjj⟩
    · simp at h0
    · simp at e
      obtain ⟨⟨rfl, rfl⟩, _, rfl⟩ := e
      exact hjj (p.length + j) x (by rw [List.getElem?_append_right (by omega)]; simpa using hj)
  have k0 := hcell 0 y0 rfl
  have k1 := hcell 1 y1 rfl
  have k2 := hcell 2 y2 rfl
  have k3 := hcell 3 y3 rfl
  simp only [← Nat.add_assoc, Nat.add_zero] at k0 k1 k2 k3
  clear hcell hv
  obtain ⟨x0, x1, x2, x3, hx, b0, b1, b2, b3⟩ := lastL_four (ext ones p)
  have HX : Hid (lastL (ext ones p) = [x0, x1, x2, x3]) := hx
  rw [hx]
  clear hx
  subst hn
  unfold maxLen at hm
  have g1 : (0 : Int) ≤ (p.length : Int) := by omega
  have g2 : (p.length : Int) ≤ (cap : Int) := by omega
  have g3 : ((p.length + 4 : Nat) : Int) ≤ (cap : Int) := by omega
  have g4 : (p.length : Int) + 4 ≤ (cap : Int) := by omega
  have g5 : (p.length : Int) ≤ (p.length : Int) + 4 := by omega
  have g6 : ¬ cap = p.length := by omega
  have g7 : ¬ p.length = cap := by omega
  have harr : ∀ (b o c : Nat) (w : World), (Instr.arrayAt 241 (.slice (some ⟨b, o, none⟩) 4 c)).run Tryz.prog w = .ok (.pointer (some ⟨b, o, none⟩)) w := by
    intro b o c w
    simp [Instr.arrayAt, run_underlying Tryz.underlying241]
  have n0 := World.new_ne w _ k0
  have n1 := World.new_ne w _ k1
  have n2 := World.new_ne w _ k2
  have n3 := World.new_ne w _ k3
  by_cases c : [y0, y1, y2, y3] = [x0, x1, x2, x3]
  · have heq := eq_four y0 y1 y2 y3 x0 x1 x2 x3
    rw [decide_eq_true c] at heq
    rw [if_pos c, if_pos c]
    clear c
    go_enter Tryz.func132, Tryz.ntmps132
    go_wp2_with fail
    go_region_held3 (fun w' => w'.cell? ⟨b, off + p.length, none⟩ = some (.int .u8 y0) ∧ w'.cell? ⟨b, off + p.length + 1, none⟩ = some (.int .u8 y1) ∧ w'.cell? ⟨b, off + p.length + 2, none⟩ = some (.int .u8 y2) ∧ w'.cell? ⟨b, off + p.length + 3, none⟩ = some (.int .u8 y3)) (go_keep) (first
      | (go_at_call 157; refine (sum_any p _ _ (HP.out.up (up_dr (Below.refl _ _)))).mono ?_; rintro e w1 ⟨rfl, rfl⟩)
      | (go_at_call 156; refine (octets_any _ x0 x1 x2 x3 HX.out _).mono ?_; rintro e w2 ⟨rfl, rfl⟩))
    all_goals
      go_wp2_with (at_builtin; refine wpList_append_octs _ rfl _ _ rfl w.heap.size _ [] rfl (World.ownsRow_nil _ _ _ _) _ p rfl (HP.out.up (by repeat (first | exact Below.refl _ _ | apply up_dr | apply up_al))) (by simp; omega) (by simp; omega) ?_)
      intro v5 w5 hown5 hg5
      go_wp2
      go_ret2
      refine ⟨_, rfl, hown5, ?_⟩
      refine Below.grown (by repeat (first | exact Below.refl _ _ | apply up_dr | apply up_al)) hg5 (by simp; omega) (by simp [Value.ownBlock])
  · have heq := eq_four y0 y1 y2 y3 x0 x1 x2 x3
    rw [decide_eq_false c] at heq
    rw [if_neg c, if_neg c]
    clear c
    go_enter Tryz.func132, Tryz.ntmps132
    go_wp2_with fail
    go_region_held3 (fun w' => w'.cell? ⟨b, off + p.length, none⟩ = some (.int .u8 y0) ∧ w'.cell? ⟨b, off + p.length + 1, none⟩ = some (.int .u8 y1) ∧ w'.cell? ⟨b, off + p.length + 2, none⟩ = some (.int .u8 y2) ∧ w'.cell? ⟨b, off + p.length + 3, none⟩ = some (.int .u8 y3)) (go_keep) (first
      | (go_at_call 157; refine (sum_any p _ _ (HP.out.up (up_dr (Below.refl _ _)))).mono ?_; rintro e w1 ⟨rfl, rfl⟩)
      | (go_at_call 156; refine (octets_any _ x0 x1 x2 x3 HX.out _).mono ?_; rintro e w2 ⟨rfl, rfl⟩))
    all_goals
      go_wp2
      go_ret2
      exact ⟨_, rfl, OwnB.nil _ _, by repeat (first | exact Below.refl _ _ | apply up_dr | apply up_al)⟩
end Go.Proofs.YtnchjlimkgbfpaaGreatDoor

namespace Go.Proofs.YtnchjlimkgbfpaaGreatDoor
open Go.RowKit SumPlain
set_option linter.unusedVariables false
set_option maxRecDepth 20000
theorem OwnB.mono {w : World} {base base' : Nat} {v : Value} {l : List Int} (h : OwnB w base v l) (hb : base' ≤ base) : OwnB w base' v l := by
  obtain ⟨h1, h2⟩ := h
  refine ⟨h1, ?_⟩
  rcases h2 with h0 | ⟨g, cap, cur, rfl, hg, r⟩
  · exact .inl h0
  · exact .inr ⟨g, cap, cur, rfl, Nat.le_trans hb hg, r⟩
theorem split_four (l : List Int) (h : 4 ≤ l.length) : ∃ y0 y1 y2 y3, l = l.take (l.length - 4) ++ [y0, y1, y2, y3] ∧ l.drop (l.length - 4) = [y0, y1, y2, y3] := by
  have e : (l.drop (l.length - 4)).length = 4 := by rw [List.length_drop]; omega
  match hd : l.drop (l.length - 4) with
  | [y0, y1, y2, y3] => exact ⟨y0, y1, y2, y3, by rw [← hd, List.take_append_drop], rfl⟩
  | [] => rw [hd] at e; simp at e
  | [_] => rw [hd] at e; simp at e
  | [_, _] => rw [hd] at e; simp at e
  | [_, _, _] => rw [hd] at e; simp at e
  | _ :: _ :: _ :: _ :: _ :: _ => rw [hd] at e; simp at e
theorem bareOf_long (l : List Int) (h : 4 ≤ l.length) (y : List Int) (hy : l.drop (l.length - 4) = y) :
    bareOf l = (if y = lastL (ext ones (l.take (l.length - 4))) then l.take (l.length - 4) else [], if y = lastL (ext ones (l.take (l.length - 4))) then 0 else 21) := by
  unfold bareOf
  rw [if_neg (by omega), hy]
  by_cases c : y = lastL (ext ones (l.take (l.length - 4)))
  · rw [if_pos c, if_pos c, if_pos c]
  · rw [if_neg c, if_neg c, if_neg c]
theorem bareOf_short (l : List Int) (h : ¬ 4 ≤ l.length) : bareOf l = ([], 8) := by
  unfold bareOf
  rw [if_pos (by omega)]
set_option maxHeartbeats 400000 in
theorem bare_short (l : List Int) (a : Option Addr) (cap : Nat) (w : World) (h : ¬ 4 ≤ l.length) :
    Calls Tryz.prog 132 #[.slice a l.length cap] w fun e w' => ∃ v', e = .returned (.tuple #[v', .int .i64 8]) ∧ OwnB w' w.heap.size v' [] ∧ Below w.heap.size w w' := by
  have hlt : (l.length : Int) - 4 < 0 := by omega
  have hlt2 : (l.length : Int) < 4 := by omega
  go_enter Tryz.func132, Tryz.ntmps132
  go_wp2
  go_ret2
  exact ⟨_, rfl, OwnB.nil _ _, Below.refl _ _⟩
theorem bare_any (l : List Int) (v : Value) (w : World) (hv : Octs w v l) (hl : l.length ≤ 140737488355328) :
    Calls Tryz.prog 132 #[v] w fun e w' => ∃ v', e = .returned (.tuple #[v', .int .i64 (bareOf l).2]) ∧ OwnB w' w.heap.size v' (bareOf l).1 ∧ Below w.heap.size w w' := by
  by_cases c : 4 ≤ l.length
  · obtain ⟨y0, y1, y2, y3, h1, h2⟩ := split_four l c
    rw [bareOf_long l c _ h2]
    obtain ⟨b, off, cap, rfl, hc, hm, _⟩ := hv.at 0 (by omega)
    have hp : (l.take (l.length - 4)).length = l.length - 4 := by rw [List.length_take]; omega
    rw [h1] at hv
    have ht : (l.take (l.length - 4) ++ [y0, y1, y2, y3]).length = l.length := by rw [← h1]
    rw [ht] at hv
    exact bare_long (l.take (l.length - 4)) y0 y1 y2 y3 b off cap l.length w (by omega) hv hc hm hl
  · rw [bareOf_short l c]
    obtain ⟨a, cap, rfl, _, _⟩ := hv.len
    exact bare_short l a cap w c
set_option maxHeartbeats 1000000 in
theorem refGuard_any (l : List Int) (v : Value) (w : World) (hv : Octs w v l) (hl : l.length ≤ 140737488351232) :
    Calls Tryz.prog 84 #[v] w fun e w' => ∃ v', e = .returned v' ∧ OwnB w' w.heap.size v' (guardOf l) ∧ Below w.heap.size w w' := by
  have HV : Hid (Octs w v l) := hv
  clear hv
  go_enter Tryz.func84, Tryz.ntmps84
  go_wp2_with fail
  refine (refSum_any l _ _ HV.out).mono ?_
  rintro e w1 ⟨rfl, rfl⟩
  go_wp2_with fail
  refine (copied_any l _ _ HV.out (by omega)).mono ?_
  rintro e w2 ⟨v2, rfl, hown2, hb2⟩
  have HOwn2 : Hid (OwnB w2 w1.heap.size v2 l) := hown2
  have hs2 := hb2.size
  have HG : Hid (guardOf l = l ++ lastL (ext ones l)) := rfl
  clear hown2
  generalize ext ones l = c at *
  have hu := u32_of c
  have H0 : Hid ((c.toNat : Int) / 16777216 = (c.toNat : Int) / 16777216 % 256) := by unfold Hid; omega
  go_wp2_with (at_builtin; refine wpList_append_lits _ rfl _ _ rfl w1.heap.size _ l rfl HOwn2.out (lastL c) 4 _ rfl rfl ?cs ?c1 ?c2 ?c3 ?_)
  try case cs => (unfold lastL; rw [← H0.out]; rfl)
  try case c1 => exact lastL_octet c
  try case c2 => (rw [lastL_len]; omega)
  try case c3 => exact hs2
  intro v3 w3 hown3 hb3
  go_wp2
  go_ret
  refine ⟨_, rfl, ?_, ?_⟩
  · rw [HG.out]; exact hown3
  · exact hb2.trans hb3
set_option maxHeartbeats 1000000 in
set_option maxRecDepth 20000 in
theorem refBare_long (p : List Int) (y0 y1 y2 y3 : Int) (b off cap n : Nat) (w : World) (hn : n = p.length + 4) (hv : Octs w (.slice (some ⟨b, off, none⟩) n cap) (p ++ [y0, y1, y2, y3])) (hc : n ≤ cap) (hm : cap ≤ maxLen) (hl : n ≤ 140737488351232) :
    Calls Tryz.prog 138 #[.slice (some ⟨b, off, none⟩) n cap] w fun e w' => ∃ v', e = .returned (.tuple #[v', .int .i64 (if [y0, y1, y2, y3] = lastL (ext ones p) then 0 else 21)]) ∧ OwnB w' w.heap.size v' (if [y0, y1, y2, y3] = lastL (ext ones p) then p else []) ∧ Below w.heap.size w w' := by
  have HP : Hid (Octs w (.slice (some ⟨b, off, none⟩) p.length cap) p) := hv.front rfl (by simp [hn])
  have HV : Hid (Octs w (.slice (some ⟨b, off, none⟩) n cap) (p ++ [y0, y1, y2, y3])) := hv
  have HS : Hid (((strOfNums (guardOf p)).toList == (strOfNums (p ++ [y0, y1, y2, y3])).toList) = decide ([y0, y1, y2, y3] = lastL (ext ones p))) := by
    unfold Hid
    rw [str_eq _ _ (guard_octet p HP.out.1) hv.1, decide_eq_decide]
    unfold guardOf
    rw [List.append_cancel_left_eq]
    exact eq_comm
  clear hv
  subst hn
  unfold maxLen at hm
  have g1 : (0 : Int) ≤ (p.length : Int) := by omega
  have g2 : (p.length : Int) ≤ (cap : Int) := by omega
  have g3 : ((p.length + 4 : Nat) : Int) ≤ (cap : Int) := by omega
  have g4 : (p.length : Int) + 4 ≤ (cap : Int) := by omega
  have g5 : (p.length : Int) ≤ (p.length : Int) + 4 := by omega
  have g8 : ¬ (p.length : Int) + 4 < 4 := by omega
  have HC : Hid (∀ wx, Below w.heap.size w wx → (convert 88 9 (.slice (some ⟨b, off, none⟩) (p.length + 4) cap)).run Tryz.prog wx = .ok (.string (strOfNums (p ++ [y0, y1, y2, y3]))) wx) := fun wx hb => run_convert_octs _ _ _ (HV.out.up hb)
  by_cases c : [y0, y1, y2, y3] = lastL (ext ones p)
  · have hs := HS.out
    rw [decide_eq_true c] at hs
    rw [if_pos c, if_pos c]
    clear c
    have kb := HC.out w.drew (up_dr (Below.refl _ _))
    go_enter Tryz.func138, Tryz.ntmps138
    go_wp2_with fail
    go_region_with (first
      | (go_at_call 84; refine (refGuard_any p _ _ (HP.out.up (up_dr (Below.refl _ _))) (by omega)).mono ?_; rintro e w2 ⟨v2, rfl, hown2, hb2⟩; have kg := run_convert_octs (guardOf p) v2 w2 (Octs.own hown2 (guard_octet p HP.out.1)); have kc := HC.out w2 (up_trans (up_dr (Below.refl _ _)) hb2)))
    all_goals
      have up2 : Hid (Below w.heap.size w w2) := up_trans (up_dr (Below.refl _ _)) hb2
      clear kg kc hown2 hb2
      go_wp2_with fail
      refine (copied_any p _ _ (HP.out.up up2.out) (by omega)).mono ?_
      rintro e w3 ⟨v3, rfl, hown3, hb3⟩
      go_wp2
      go_ret2
      exact ⟨_, rfl, hown3.mono up2.out.size, up_trans up2.out hb3⟩
  · have hs := HS.out
    rw [decide_eq_false c] at hs
    rw [if_neg c, if_neg c]
    clear c
    have kb := HC.out w.drew (up_dr (Below.refl _ _))
    go_enter Tryz.func138, Tryz.ntmps138
    go_wp2_with fail
    go_region_with (first
      | (go_at_call 84; refine (refGuard_any p _ _ (HP.out.up (up_dr (Below.refl _ _))) (by omega)).mono ?_; rintro e w2 ⟨v2, rfl, hown2, hb2⟩; have kg := run_convert_octs (guardOf p) v2 w2 (Octs.own hown2 (guard_octet p HP.out.1)); have kc := HC.out w2 (up_trans (up_dr (Below.refl _ _)) hb2)))
    all_goals
      go_wp2
      go_ret2
      exact ⟨_, rfl, OwnB.nil _ _, up_trans (up_dr (Below.refl _ _)) hb2⟩
set_option maxHeartbeats 400000 in
theorem refBare_short (l : List Int) (a : Option Addr) (cap : Nat) (w : World) (h : ¬ 4 ≤ l.length) :
    Calls Tryz.prog 138 #[.slice a l.length cap] w fun e w' => ∃ v', e = .returned (.tuple #[v', .int .i64 8]) ∧ OwnB w' w.heap.size v' [] ∧ Below w.heap.size w w' := by
  have hlt2 : (l.length : Int) < 4 := by omega
  go_enter Tryz.func138, Tryz.ntmps138
  go_wp2
  go_ret2
  exact ⟨_, rfl, OwnB.nil _ _, Below.refl _ _⟩
theorem refBare_any (l : List Int) (v : Value) (w : World) (hv : Octs w v l) (hl : l.length ≤ 140737488351232) :
    Calls Tryz.prog 138 #[v] w fun e w' => ∃ v', e = .returned (.tuple #[v', .int .i64 (bareOf l).2]) ∧ OwnB w' w.heap.size v' (bareOf l).1 ∧ Below w.heap.size w w' := by
  by_cases c : 4 ≤ l.length
  · obtain ⟨y0, y1, y2, y3, h1, h2⟩ := split_four l c
    rw [bareOf_long l c _ h2]
    obtain ⟨b, off, cap, rfl, hc, hm, _⟩ := hv.at 0 (by omega)
    have hp : (l.take (l.length - 4)).length = l.length - 4 := by rw [List.length_take]; omega
    rw [h1] at hv
    have ht : (l.take (l.length - 4) ++ [y0, y1, y2, y3]).length = l.length := by rw [← h1]
    rw [ht] at hv
    exact refBare_long (l.take (l.length - 4)) y0 y1 y2 y3 b off cap l.length w (by omega) hv hc hm hl
  · rw [bareOf_short l c]
    obtain ⟨a, cap, rfl, _, _⟩ := hv.len
    exact refBare_short l a cap w c
theorem own_len {w : World} {base : Nat} {v : Value} {l : List Int} (h : OwnB w base v l) : ∃ a cap, v = .slice a l.length cap ∧ l.length ≤ cap := by
  obtain ⟨_, h⟩ := h
  rcases h with ⟨rfl, h0⟩ | ⟨g, cap, cur, rfl, _, _, hn, _⟩
  · exact ⟨none, 0, by rw [h0], by omega⟩
  · exact ⟨_, cap, rfl, hn⟩
end Go.Proofs.YtnchjlimkgbfpaaGreatDoor

namespace Go.Proofs.YtnchjlimkgbfpaaGreatDoor
open Go.RowKit SumPlain
set_option linter.unusedVariables false
set_option maxRecDepth 20000
theorem own_shape {w : World} {base : Nat} {v : Value} {l : List Int} (h : OwnB w base v l) : ∃ a n c, v = .slice a n c ∧ Hid (n = l.length) := by
  obtain ⟨a, c, e, _⟩ := own_len h
  exact ⟨a, _, c, e, rfl⟩
end Go.Proofs.YtnchjlimkgbfpaaGreatDoor

namespace Go.Proofs.YtnchjlimkgbfpaaGreatDoor
open Go.RowKit SumPlain
set_option linter.unusedVariables false
set_option maxRecDepth 20000
def set2 (w : World) (N : Nat) (a b : Value) : World := (w.setCell ⟨N, 0, none⟩ a).setCell ⟨N, 1, none⟩ b
theorem set2_blk {w : World} {N : Nat} {t : TypeId} {x0 x1 : Value} (h : w.heap[N]? = some (.cells #[x0, x1] t)) (a b : Value) : (set2 w N a b).heap[N]? = some (.cells #[a, b] t) :=
  blk_set (blk_set h 0 a) 1 b
theorem set2_grown (w : World) (N : Nat) (a b : Value) : w.grownBy (set2 w N a b) (some N) :=
  grown_trans (grown_set w ⟨N, 0, none⟩ a) (grown_set _ ⟨N, 1, none⟩ b)
theorem results_rec3 {fn : Func} {t : TypeId} (h : fn.results = #[.cell 2 t, .tmp 3, .tmp 4]) (hl : t = 154 ∨ t = 104) (tmps : Array Value) (w : World) {N : Nat} {a b : Value} (ht : tmps.getD 2 undef = .pointer (some ⟨N, 0, none⟩))
    (hc : w.heap[N]? = some (.cells #[a, b] t)) : (results fn tmps).run Tryz.prog w = .ok (.tuple #[.agg #[a, b], tmps.getD 3 undef, tmps.getD 4 undef]) w := by
  have c0 := blk_cell hc 0 a rfl
  have c1 := blk_cell hc 1 b rfl
  have ht' : tmps[2]?.getD undef = .pointer (some ⟨N, 0, none⟩) := by simpa using ht
  rcases hl with rfl | rfl
  · simp only [results, h]
    simp [ht', go_sem, c0, c1]
  · simp only [results, h]
    simp [ht', go_sem, c0, c1]
def NewB (w : World) (base : Nat) (v : Value) (l : List Int) : Prop := Octs w v l ∧ ∀ g, v.ownBlock = some g → base ≤ g
theorem NewB.far {w w' : World} {base : Nat} {v : Value} {l : List Int} (h : NewB w base v l) {r : Option Nat} (hg : w.grownBy w' r) (hr : ∀ g, v.ownBlock = some g → r ≠ some g) : NewB w' base v l := by
  refine ⟨h.1.moved ?_, h.2⟩
  intro b off x hne hb hc
  have hlt : b < w.heap.size := by
    rcases Nat.lt_or_ge b w.heap.size with q | q
    · exact q
    · simp [World.cell?, Array.getElem?_eq_none q] at hc
  rw [hg.cell_far ⟨b, off, none⟩ hlt (fun e => hr b hb e.symm)]
  exact hc
theorem NewB.up {w w' : World} {base : Nat} {v : Value} {l : List Int} (h : NewB w base v l) (hb : Below w.heap.size w w') : NewB w' base v l := ⟨h.1.up hb, h.2⟩
theorem NewB.mono {w : World} {base base' : Nat} {v : Value} {l : List Int} (h : NewB w base v l) (hb : base' ≤ base) : NewB w base' v l := ⟨h.1, fun g e => Nat.le_trans hb (h.2 g e)⟩
theorem OwnB.fresh {w : World} {base : Nat} {v : Value} {l : List Int} (h : OwnB w base v l) (hx : ∀ x ∈ l, 0 ≤ x ∧ x ≤ 255) : NewB w base v l := ⟨Octs.own h hx, fun g e => (h.lt g e).1⟩
theorem NewB.nil (w : World) (base : Nat) : NewB w base (.slice none 0 0) [] := (OwnB.nil w base).fresh (by simp)
end Go.Proofs.YtnchjlimkgbfpaaGreatDoor
