/- The program's cut of a text at its blanks: the closure that ends a word. -/
import Derived.Test.YtpjmieiajhhbaaaDoorDField
namespace Go.Proofs.YtpjmieiajhhbaaaDoor
open Go.RowKit
set_option linter.unusedVariables false
set_option linter.unusedSimpArgs false

def arrW (d : List (List Int)) : Array Value := #[.string (strOfNums (nthL d 0)), .string (strOfNums (nthL d 1)), .string (strOfNums (nthL d 2)), .string (strOfNums (nthL d 3)), .string (strOfNums (nthL d 4))]
/-- What the cut has made so far. -/
structure CutW (w : World) (l : List Int) (d : List (List Int)) (f : Nat) (W : World) : Prop where
  box : W.heap[w.heap.size]? = some (.cells #[.string (strOfNums l)] 9)
  res : W.heap[w.heap.size + 1]? = some (.cells (arrW []) 135)
  wrd : W.heap[w.heap.size + 2]? = some (.cells (arrW d) 135)
  cnt : W.heap[w.heap.size + 3]? = some (.cells #[.int .i64 (d.length : Int)] 3)
  frm : W.heap[w.heap.size + 4]? = some (.cells #[.int .i64 (f : Int)] 3)
  below : Below w.heap.size w W
theorem CutW.up {w : World} {l : List Int} {d : List (List Int)} {f : Nat} {W W' : World} (H : CutW w l d f W) (hb : Below W.heap.size W W') : CutW w l d f W' :=
  ⟨blk_up H.box hb, blk_up H.res hb, blk_up H.wrd hb, blk_up H.cnt hb, blk_up H.frm hb, up_trans H.below hb⟩
theorem CutW.from {w : World} {l : List Int} {d : List (List Int)} {f : Nat} {W : World} (H : CutW w l d f W) (f' : Nat) : CutW w l d f' (W.setCell ⟨w.heap.size + 4, 0, none⟩ (.int .i64 (f' : Int))) := by
  have g := grown_set W ⟨w.heap.size + 4, 0, none⟩ (.int .i64 (f' : Int))
  exact ⟨blk_grown H.box g (by simp), blk_grown H.res g (by simp), blk_grown H.wrd g (by simp), blk_grown H.cnt g (by simp), blk_set H.frm 0 _, H.below.grown g H.below.size (fun j hj => by simp at hj; omega)⟩
theorem nthL_snoc (d : List (List Int)) (x : List Int) (j : Nat) : nthL (d ++ [x]) j = if j = d.length then x else nthL d j := by
  unfold nthL
  by_cases h : j = d.length
  · subst h; simp [List.getD]
  · rw [if_neg h]
    by_cases c : j < d.length
    · simp [List.getD, List.getElem?_append_left c]
    · simp only [List.getD, List.getElem?_append_right (show d.length ≤ j by omega)]
      rw [List.getElem?_eq_none (by simp; omega), List.getElem?_eq_none (by omega)]
theorem arrW_put (d : List (List Int)) (x : List Int) (h : d.length < 5) : arrW (d ++ [x]) = (arrW d).setIfInBounds d.length (.string (strOfNums x)) := by
  unfold arrW
  simp only [nthL_snoc]
  generalize d.length = n at *
  match n, h with
  | 0, _ => rfl
  | 1, _ => rfl
  | 2, _ => rfl
  | 3, _ => rfl
  | 4, _ => rfl
theorem arrW_far (d : List (List Int)) (x : List Int) (h : 5 ≤ d.length) : arrW (d ++ [x]) = arrW d := by
  unfold arrW
  simp only [nthL_snoc]
  rw [if_neg (by omega), if_neg (by omega), if_neg (by omega), if_neg (by omega), if_neg (by omega)]
theorem CutW.count {w : World} {l : List Int} {d : List (List Int)} {f : Nat} {W : World} (H : CutW w l d f W) (x : List Int) (h : 5 ≤ d.length) : CutW w l (d ++ [x]) f (W.setCell ⟨w.heap.size + 3, 0, none⟩ (.int .i64 ((d.length : Int) + 1))) := by
  have g := grown_set W ⟨w.heap.size + 3, 0, none⟩ (.int .i64 ((d.length : Int) + 1))
  refine ⟨blk_grown H.box g (by simp), blk_grown H.res g (by simp), ?_, ?_, blk_grown H.frm g (by simp), H.below.grown g H.below.size (fun j hj => by simp at hj; omega)⟩
  · rw [arrW_far d x h]
    exact blk_grown H.wrd g (by simp)
  · rw [List.length_append, List.length_singleton]
    exact blk_set H.cnt 0 _
theorem CutW.word {w : World} {l : List Int} {d : List (List Int)} {f : Nat} {W : World} (H : CutW w l d f W) (x : List Int) (h : d.length < 5) : CutW w l (d ++ [x]) f ((W.setCell ⟨w.heap.size + 2, d.length, none⟩ (.string (strOfNums x))).setCell ⟨w.heap.size + 3, 0, none⟩ (.int .i64 ((d.length : Int) + 1))) := by
  have g1 := grown_set W ⟨w.heap.size + 2, d.length, none⟩ (.string (strOfNums x))
  have g2 := grown_set (W.setCell ⟨w.heap.size + 2, d.length, none⟩ (.string (strOfNums x))) ⟨w.heap.size + 3, 0, none⟩ (.int .i64 ((d.length : Int) + 1))
  refine ⟨blk_grown (blk_grown H.box g1 (by simp)) g2 (by simp), blk_grown (blk_grown H.res g1 (by simp)) g2 (by simp), ?_, ?_, blk_grown (blk_grown H.frm g1 (by simp)) g2 (by simp), (H.below.grown g1 H.below.size (fun j hj => by simp at hj; omega)).grown g2 (Nat.le_trans H.below.size g1.size) (fun j hj => by simp at hj; omega)⟩
  · rw [arrW_put d x h]
    exact blk_grown (blk_set H.wrd d.length _) g2 (by simp)
  · rw [List.length_append, List.length_singleton]
    exact blk_set (blk_grown H.cnt g1 (by simp)) 0 _
set_option maxHeartbeats 1000000 in
set_option maxRecDepth 20000 in
theorem end_any (w : World) (l : List Int) (hm : l.length ≤ 1000000) (d : List (List Int)) (hd : d.length ≤ 1000000) (f k : Nat) (hf : f ≤ k) (hk : k ≤ l.length) (W : World) (H : CutW w l d f W) :
    Calls Tryd.prog 87 #[.int .i64 (k : Int), .pointer (some ⟨w.heap.size + 4, 0, none⟩), .pointer (some ⟨w.heap.size + 3, 0, none⟩), .pointer (some ⟨w.heap.size, 0, none⟩), .pointer (some ⟨w.heap.size + 2, 0, none⟩)] W
      fun e W' => (∃ v, e = .returned v) ∧ CutW w l (if f < k then d ++ [(l.drop f).take (k - f)] else d) (k + 1) W' := by
  have hsz := strOfNums_size l
  have x1 := blk_cell H.frm 0 _ rfl
  have x2 := blk_cell H.cnt 0 _ rfl
  have x3 := blk_cell H.box 0 _ rfl
  have f1 := blk_frozen H.frm 0
  have f2 := blk_frozen H.cnt 0
  have HH := hid H
  by_cases c : f < k
  · have c' : (f : Int) < (k : Int) := by omega
    rw [if_pos c]
    have ex := str_cut l f k
    by_cases c5 : d.length < 5
    · have c5' : (d.length : Int) < 5 := by omega
      have y : ∃ v, W.cell? ⟨w.heap.size + 2, d.length, none⟩ = some v := by
        have : d.length < (arrW d).size := c5
        exact ⟨_, blk_cell H.wrd d.length _ (Array.getElem?_eq_getElem this)⟩
      obtain ⟨v, y⟩ := y
      have fy := blk_frozen H.wrd d.length
      have FIN := hid ((HH.out.word ((l.drop f).take (k - f)) c5).from (k + 1))
      clear H HH
      generalize (l.drop f).take (k - f) = x at *
      go_enter Tryd.func87, Tryd.ntmps87
      go_wp2_with fail
      go_region
      go_wp2_with fail
      go_end0
      exact ⟨⟨_, rfl⟩, FIN.out.up (up_drewN _ 1)⟩
    · have c5' : ¬ (d.length : Int) < 5 := by omega
      have FIN := hid ((HH.out.count ((l.drop f).take (k - f)) (by omega)).from (k + 1))
      clear H HH ex
      generalize (l.drop f).take (k - f) = x at *
      go_enter Tryd.func87, Tryd.ntmps87
      go_wp2_with fail
      go_end0
      exact ⟨⟨_, rfl⟩, FIN.out⟩
  · have c' : ¬ (f : Int) < (k : Int) := by omega
    rw [if_neg c]
    have FIN := hid (HH.out.from (k + 1))
    clear H HH
    go_enter Tryd.func87, Tryd.ntmps87
    go_wp2_with fail
    go_end0
    exact ⟨⟨_, rfl⟩, FIN.out⟩
/-! ### the cut -/
def CurF (l : List Int) (f k : Nat) : List Int := (l.drop f).take (k - f)
theorem cur_len {l : List Int} {f k : Nat} (hf : f ≤ k) (hk : k ≤ l.length) : (CurF l f k).length = k - f := by
  unfold CurF
  rw [List.length_take, List.length_drop]
  omega
theorem cur_nil {l : List Int} {f k : Nat} (hf : f ≤ k) (hk : k ≤ l.length) : CurF l f k = [] ↔ ¬ f < k := by
  have := cur_len hf hk
  rw [← List.length_eq_zero_iff, this]
  omega
theorem cur_on {l : List Int} {f k : Nat} (hf : f ≤ k) (hk : k < l.length) : CurF l f (k + 1) = CurF l f k ++ [l.getD k 0] := by
  unfold CurF
  rw [show k + 1 - f = (k - f) + 1 by omega, List.take_add_one, List.getElem?_drop, show f + (k - f) = k by omega]
  simp [List.getD, hk]
/-- What a round of the octets finds. -/
def WdAt (l : List Int) (d : List (List Int)) (f k : Nat) : Prop := f ≤ k ∧ k ≤ l.length ∧ d.length ≤ k ∧ d ++ wordsF (l.drop k) (CurF l f k) = wordsL l
def pushW (l : List Int) (d : List (List Int)) (f k : Nat) : List (List Int) := if f < k then d ++ [(l.drop f).take (k - f)] else d
theorem WdAt.blank {l : List Int} {d : List (List Int)} {f k : Nat} (h : WdAt l d f k) (hk : k < l.length) (hb : l.getD k 0 = 32) : WdAt l (pushW l d f k) (k + 1) (k + 1) := by
  obtain ⟨h1, h2, h3, h4⟩ := h
  have ed : l.drop k = l.getD k 0 :: l.drop (k + 1) := by
    rw [List.drop_eq_getElem_cons hk]
    simp [List.getD, hk]
  rw [ed, wordsF_cons, if_pos hb] at h4
  have n := cur_nil h1 h2
  have e0 : CurF l (k + 1) (k + 1) = [] := by unfold CurF; simp
  refine ⟨Nat.le_refl _, hk, ?_, ?_⟩
  · unfold pushW
    split
    · rw [List.length_append, List.length_singleton]; omega
    · omega
  · rw [e0]
    unfold pushW
    by_cases c : f < k
    · rw [if_neg (fun q => n.1 q c)] at h4
      rw [if_pos c, ← h4]
      show d ++ [CurF l f k] ++ _ = _
      simp
    · rw [if_pos (n.2 c)] at h4
      rw [if_neg c]
      exact h4
theorem WdAt.on {l : List Int} {d : List (List Int)} {f k : Nat} (h : WdAt l d f k) (hk : k < l.length) (hb : l.getD k 0 ≠ 32) : WdAt l d f (k + 1) := by
  obtain ⟨h1, h2, h3, h4⟩ := h
  have ed : l.drop k = l.getD k 0 :: l.drop (k + 1) := by
    rw [List.drop_eq_getElem_cons hk]
    simp [List.getD, hk]
  rw [ed, wordsF_cons, if_neg hb] at h4
  refine ⟨by omega, hk, by omega, ?_⟩
  rw [cur_on h1 hk]
  exact h4
theorem WdAt.last {l : List Int} {d : List (List Int)} {f : Nat} (h : WdAt l d f l.length) : pushW l d f l.length = wordsL l := by
  obtain ⟨h1, h2, h3, h4⟩ := h
  have n := cur_nil h1 h2
  rw [List.drop_length] at h4
  unfold wordsF at h4
  unfold pushW
  by_cases c : f < l.length
  · rw [if_neg (fun q => n.1 q c)] at h4
    rw [if_pos c]
    exact h4
  · rw [if_pos (n.2 c)] at h4
    rw [if_neg c]
    simpa using h4
theorem results_arr {fn : Func} (h : fn.results = #[.cell 2 135, .tmp 3]) (tmps : Array Value) (w : World) {N : Nat} {a b c d e : Value} (ht : tmps.getD 2 undef = .pointer (some ⟨N, 0, none⟩))
    (hc : w.heap[N]? = some (.cells #[a, b, c, d, e] 135)) : (results fn tmps).run Tryd.prog w = .ok (.tuple #[.agg #[a, b, c, d, e], tmps.getD 3 undef]) w := by
  have c0 := blk_cell hc 0 a rfl
  have c1 := blk_cell hc 1 b rfl
  have c2 := blk_cell hc 2 c rfl
  have c3 := blk_cell hc 3 d rfl
  have c4 := blk_cell hc 4 e rfl
  have ht' : tmps[2]?.getD undef = .pointer (some ⟨N, 0, none⟩) := by simpa using ht
  simp only [results, h]
  simp [ht', go_sem, c0, c1, c2, c3, c4]
theorem set5_blk {w : World} {N : Nat} {t : TypeId} {x0 x1 x2 x3 x4 : Value} (h : w.heap[N]? = some (.cells #[x0, x1, x2, x3, x4] t)) (a b c d e : Value) : (((((w.setCell ⟨N, 0, none⟩ a).setCell ⟨N, 1, none⟩ b).setCell ⟨N, 2, none⟩ c).setCell ⟨N, 3, none⟩ d).setCell ⟨N, 4, none⟩ e).heap[N]? = some (.cells #[a, b, c, d, e] t) := by
  have := blk_set (blk_set (blk_set (blk_set (blk_set h 0 a) 1 b) 2 c) 3 d) 4 e
  simpa only [List.setIfInBounds_toArray, List.set_cons_zero, List.set_cons_succ] using this
theorem set5_grown (w : World) (N : Nat) (a b c d e : Value) : w.grownBy (((((w.setCell ⟨N, 0, none⟩ a).setCell ⟨N, 1, none⟩ b).setCell ⟨N, 2, none⟩ c).setCell ⟨N, 3, none⟩ d).setCell ⟨N, 4, none⟩ e) (some N) :=
  grown_trans (grown_trans (grown_trans (grown_trans (grown_set w ⟨N, 0, none⟩ a) (grown_set _ ⟨N, 1, none⟩ b)) (grown_set _ ⟨N, 2, none⟩ c)) (grown_set _ ⟨N, 3, none⟩ d)) (grown_set _ ⟨N, 4, none⟩ e)
set_option maxHeartbeats 2000000 in
set_option maxRecDepth 20000 in
theorem cut_any (l : List Int) (hx : ∀ x ∈ l, 0 ≤ x ∧ x ≤ 255) (hm : l.length ≤ 1000000) (w : World) :
    Calls Tryd.prog 77 #[.string (strOfNums l)] w fun e w' => e = .returned (.tuple #[.agg (arrW (wordsL l)), .int .i64 ((wordsL l).length : Int)]) ∧ Below w.heap.size w w' := by
  have hsz := strOfNums_size l
  have HE : Hid (∀ (d : List (List Int)) (hd : d.length ≤ 1000000) (f k : Nat) (hf : f ≤ k) (hk : k ≤ l.length) (W : World) (H : CutW w l d f W), Calls Tryd.prog 87 #[.int .i64 (k : Int), .pointer (some ⟨w.heap.size + 4, 0, none⟩), .pointer (some ⟨w.heap.size + 3, 0, none⟩), .pointer (some ⟨w.heap.size, 0, none⟩), .pointer (some ⟨w.heap.size + 2, 0, none⟩)] W
      fun e W' => (∃ v, e = .returned v) ∧ CutW w l (pushW l d f k) (k + 1) W') := fun d hd f k hf hk W H => end_any w l hm d hd f k hf hk W H
  have C0 : Hid (∀ W, W = ((((w.alloc (.cells #[.string (strOfNums l)] 9)).alloc (.cells (arrW []) 135)).alloc (.cells (arrW []) 135)).alloc (.cells #[.int .i64 0] 3)).alloc (.cells #[.int .i64 0] 3) → CutW w l [] 0 W) := by
    intro W hW
    rw [hW]
    exact ⟨blk_al (blk_al (blk_al (blk_al (blk_nw _ _ (by simp)) _) _) _) _, blk_al (blk_al (blk_al (blk_nw _ _ (by simp)) _) _) _, blk_al (blk_al (blk_nw _ _ (by simp)) _) _, blk_al (blk_nw _ _ (by simp)) _, blk_nw _ _ (by simp), up_al (up_al (up_al (up_al (up_alloc _ _) _) _) _) _⟩
  unfold arrW at C0
  have W0 : Hid (WdAt l [] 0 0) := ⟨Nat.le_refl _, Nat.zero_le _, Nat.le_refl _, by unfold CurF; rfl⟩
  have HX := hid hx
  have HM := hid hm
  go_enter Tryd.func77, Tryd.ntmps77
  go_wp2_with fail
  generalize hW : World.alloc _ _ = W1
  have CW1 := hid (C0.out W1 hW.symm)
  clear C0 hW
  have HSH : Hid (∀ (d : List (List Int)) (f : Nat) (W : World), CutW w l d f W → W.cell? ⟨w.heap.size, 0, none⟩ = some (.string (strOfNums l))) := fun d f W h => blk_cell h.box 0 _ rfl
  go_loopw [12] (fun q wr => ∃ (k : Nat) (d : List (List Int)) (f : Nat), q = .int .i64 (k : Int) ∧ Hid (WdAt l d f k) ∧ Hid (CutW w l d f wr)) (fun q _ => l.length - (intOf q).toNat)
  case atStart => exact ⟨0, [], 0, rfl, W0, CW1⟩
  case round =>
    clear W0 CW1
    obtain ⟨k, d, f, rfl, HW, HC⟩ := hrel
    have bx := HSH.out d f wr HC.out
    have hk := HW.out.2.1
    by_cases c : k < l.length
    · have c' : (k : Int) < (l.length : Int) := by omega
      have hj : k < (strOfNums l).size := by omega
      have hy := str_at l HX.out k hj
      by_cases e : l.getD k 0 = 32
      · have HW2 := hid (HW.out.blank c e)
        have E1 := hid (HE.out d (by have := HW.out.2.2.1; omega) f k HW.out.1 hk wr HC.out)
        rw [e] at hy
        clear e HE HC HW
        go_wp2_with fail
        refine E1.out.mono ?_
        rintro e w2 ⟨⟨v, rfl⟩, hc2⟩
        have HC2 := hid hc2
        clear hc2 bx
        go_wp2_with fail
        exact ⟨⟨k + 1, _, _, by go_num, HW2, HC2⟩, by simp [intOf]; omega⟩
      · have HW2 := hid (HW.out.on c e)
        have te : (l.getD k 0 == 32) = false := by simpa using e
        clear e HE
        generalize l.getD k 0 = x at *
        go_wp2_with fail
        exact ⟨⟨k + 1, _, _, by go_num, HW2, HC⟩, by simp [intOf]; omega⟩
    · have c' : ¬ (k : Int) < (l.length : Int) := by omega
      obtain rfl : k = l.length := by omega
      have WL := hid HW.out.last
      have E1 := hid (HE.out d (by have := HW.out.2.2.1; omega) f l.length HW.out.1 hk wr HC.out)
      clear HE HW HC
      go_wp2_with fail
      refine E1.out.mono ?_
      rintro e w2 ⟨⟨v, rfl⟩, hc2⟩
      have HC2 := hid hc2
      rw [WL.out] at HC2
      clear hc2 bx WL E1
      have b1 := HC2.out.res
      have b2 := HC2.out.wrd
      unfold arrW at b1 b2
      have y0 := blk_cell b2 0 _ rfl
      have y1 := blk_cell b2 1 _ rfl
      have y2 := blk_cell b2 2 _ rfl
      have y3 := blk_cell b2 3 _ rfl
      have y4 := blk_cell b2 4 _ rfl
      have x0 := blk_cell b1 0 _ rfl
      have x1 := blk_cell b1 1 _ rfl
      have x2 := blk_cell b1 2 _ rfl
      have x3 := blk_cell b1 3 _ rfl
      have x4 := blk_cell b1 4 _ rfl
      have f0 := blk_frozen b1 0
      have f1 := blk_frozen b1 1
      have f2 := blk_frozen b1 2
      have f3 := blk_frozen b1 3
      have f4 := blk_frozen b1 4
      have z := blk_cell HC2.out.cnt 0 _ rfl
      have bx := HSH.out _ _ w2 HC2.out
      have FIN := hid (set5_blk b1 (.string (strOfNums (nthL (wordsL l) 0))) (.string (strOfNums (nthL (wordsL l) 1))) (.string (strOfNums (nthL (wordsL l) 2))) (.string (strOfNums (nthL (wordsL l) 3))) (.string (strOfNums (nthL (wordsL l) 4))))
      have GR := hid (set5_grown w2 (w.heap.size + 1) (.string (strOfNums (nthL (wordsL l) 0))) (.string (strOfNums (nthL (wordsL l) 1))) (.string (strOfNums (nthL (wordsL l) 2))) (.string (strOfNums (nthL (wordsL l) 3))) (.string (strOfNums (nthL (wordsL l) 4))))
      have UB := hid HC2.out.below
      clear HC2 b1 b2
      go_wp2_with fail
      go_region
      go_wp2_with fail
      refine bodyPost_ret (results_arr rfl _ _ rfl (blk_up FIN.out (up_drewN _ 1))) rfl ?_
      exact ⟨rfl, up_trans (UB.out.grown GR.out UB.out.size (fun j hj => by simp at hj; omega)) (up_drewN _ 1)⟩
end Go.Proofs.YtpjmieiajhhbaaaDoor
