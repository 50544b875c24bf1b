/- The document's Parse. -/
import Derived.Test.YtpjmieiajhhbaaaDoorNCheck
import Derived.Deep.Cut
import Derived.Deep.RegionHeld3
namespace Go.Proofs.YtpjmieiajhhbaaaDoor
open Go.RowKit
set_option linter.unusedVariables false
set_option linter.unusedSimpArgs false

def ru0 : Ru := ⟨0, 0, 0, 0, 0, false, false⟩
/-- The weekdays' set: 7 is 0, too. -/
def weekN (k : Nat) : Nat := k &&& 127 ||| (k / 128 &&& 1)
/-- A rule of five words; an error's number beside it. -/
def ruleOf (a b c d e : List Int) : Ru × Int :=
  if fieldN a 0 59 = 0 ∨ fieldN b 0 23 = 0 ∨ fieldN c 1 31 = 0 ∨ fieldN d 1 12 = 0 ∨ (if e = [42] then 127 else fieldN e 0 7) = 0 then (ru0, 12)
  else (⟨fieldN a 0 59, fieldN b 0 23, fieldN c 1 31, fieldN d 1 12, weekN (if e = [42] then 127 else fieldN e 0 7), decide (c = [42]), decide (e = [42])⟩, 0)
def parseR (l : List Int) : Ru × Int :=
  if 400 < l.length then (ru0, 5) else match wordsL l with
  | [a, b, c, d, e] => ruleOf a b c d e
  | _ => (ru0, 3)
theorem parseR_five {l : List Int} {a b c d e : List Int} (h : ¬ 400 < l.length) (hw : wordsL l = [a, b, c, d, e]) : parseR l = ruleOf a b c d e := by
  unfold parseR
  rw [if_neg h, hw]
theorem parseR_not {l : List Int} (h : ¬ 400 < l.length) (hw : (wordsL l).length ≠ 5) : parseR l = (ru0, 3) := by
  unfold parseR
  rw [if_neg h]
  match hq : wordsL l with
  | [] => rfl
  | [_] => rfl
  | [_, _] => rfl
  | [_, _, _] => rfl
  | [_, _, _, _] => rfl
  | [_, _, _, _, _] => rw [hq] at hw; exact absurd rfl hw
  | _ :: _ :: _ :: _ :: _ :: _ :: _ => rfl
theorem five {α : Type} {l : List α} (h : l.length = 5) : ∃ a b c d e, l = [a, b, c, d, e] := by
  match l, h with
  | [a, b, c, d, e], _ => exact ⟨a, b, c, d, e, rfl⟩
theorem week_bits (k : Nat) (hk : k < 18446744073709551616) : bits .or .u64 (bits .and .u64 (k : Int) 127) (bits .and .u64 ((k : Int) / 128) 1) = (weekN k : Int) := by
  have h1 : k / 128 < 18446744073709551616 := Nat.lt_of_le_of_lt (Nat.div_le_self _ _) hk
  have a1 := bit_and k 127 hk (by decide)
  have a2 := bit_and (k / 128) 1 h1 (by decide)
  have e : ((k : Int) / 128) = ((k / 128 : Nat) : Int) := by omega
  have b1 : k &&& 127 < 18446744073709551616 := Nat.and_lt_two_pow (n := 64) _ (by decide)
  have b2 : k / 128 &&& 1 < 18446744073709551616 := Nat.and_lt_two_pow (n := 64) _ (by decide)
  rw [e, show (127 : Int) = ((127 : Nat) : Int) from rfl, show (1 : Int) = ((1 : Nat) : Int) from rfl, a1, a2, bit_or _ _ b1 b2]
  rfl
theorem week_star : bits .or .u64 (bits .and .u64 127 127) (bits .and .u64 0 1) = (weekN 127 : Int) := by decide +kernel
theorem results_ru {fn : Func} {q r : Nat} (h : fn.results = #[.cell q 58, .tmp r]) (tmps : Array Value) (w : World) {N : Nat} {a b c d e f g : Value} (ht : tmps.getD q undef = .pointer (some ⟨N, 0, none⟩))
    (hc : w.heap[N]? = some (.cells #[a, b, c, d, e, f, g] 58)) : (results fn tmps).run Tryd.prog w = .ok (.tuple #[.agg #[a, b, c, d, e, f, g], tmps.getD r undef]) w := by
  have c0 := blk_cell hc 0 a rfl
  have c1 := blk_cell hc 1 b rfl
  have c2 := blk_cell hc 2 c rfl
  have c3 := blk_cell hc 3 d rfl
  have c4 := blk_cell hc 4 e rfl
  have c5 := blk_cell hc 5 f rfl
  have c6 := blk_cell hc 6 g rfl
  have ht' : tmps[q]?.getD undef = .pointer (some ⟨N, 0, none⟩) := by simpa using ht
  simp only [results, h]
  simp [ht', go_sem, c0, c1, c2, c3, c4, c5, c6]
theorem texts5 {w : World} {v : Value} {A B C D E : List Int} (h : TextsW w v [A, B, C, D, E]) : ∃ b o c, v = .slice (some ⟨b, o, none⟩) 5 c ∧ 5 ≤ c ∧ c ≤ maxLen ∧ ∀ W, Below w.heap.size w W →
    W.cell? ⟨b, o, none⟩ = some (.string (strOfNums A)) ∧ W.cell? ⟨b, o + 1, none⟩ = some (.string (strOfNums B)) ∧ W.cell? ⟨b, o + 2, none⟩ = some (.string (strOfNums C)) ∧ W.cell? ⟨b, o + 3, none⟩ = some (.string (strOfNums D)) ∧ W.cell? ⟨b, o + 4, none⟩ = some (.string (strOfNums E)) := by
  obtain ⟨a', c', e', hc, hmx⟩ := h.len
  obtain ⟨b0, o0, p0, e0, x0⟩ := h.at 0 (by simp)
  obtain ⟨b1, o1, p1, e1, x1⟩ := h.at 1 (by simp)
  obtain ⟨b2, o2, p2, e2, x2⟩ := h.at 2 (by simp)
  obtain ⟨b3, o3, p3, e3, x3⟩ := h.at 3 (by simp)
  obtain ⟨b4, o4, p4, e4, x4⟩ := h.at 4 (by simp)
  subst e0
  simp only [Value.slice.injEq, Option.some.injEq, Addr.mk.injEq, and_true, true_and] at e1 e2 e3 e4 e'
  obtain ⟨⟨rfl, rfl⟩, rfl⟩ := e1
  obtain ⟨⟨rfl, rfl⟩, rfl⟩ := e2
  obtain ⟨⟨rfl, rfl⟩, rfl⟩ := e3
  obtain ⟨⟨rfl, rfl⟩, rfl⟩ := e4
  obtain ⟨-, rfl⟩ := e'
  refine ⟨b0, o0, p0, rfl, hc, hmx, fun W hb => ⟨?_, ?_, ?_, ?_, ?_⟩⟩
  · exact (hb.cell (World.block_lt_of_cell? w _ x0)).trans x0
  · exact (hb.cell (World.block_lt_of_cell? w _ x1)).trans x1
  · exact (hb.cell (World.block_lt_of_cell? w _ x2)).trans x2
  · exact (hb.cell (World.block_lt_of_cell? w _ x3)).trans x3
  · exact (hb.cell (World.block_lt_of_cell? w _ x4)).trans x4
theorem up_set7 {w W : World} {N : Nat} (h : Below w.heap.size w W) (hN : w.heap.size ≤ N) (a b c d e f g : Value) : Below w.heap.size w (((((((W.setCell ⟨N, 0, none⟩ a).setCell ⟨N, 1, none⟩ b).setCell ⟨N, 2, none⟩ c).setCell ⟨N, 3, none⟩ d).setCell ⟨N, 4, none⟩ e).setCell ⟨N, 5, none⟩ f).setCell ⟨N, 6, none⟩ g) :=
  h.grown (set7_grown _ _ _ _ _ _ _ _ _) h.size (fun k hk => by cases hk; exact hN)
def retR (q : Ru × Int) : Value := .tuple #[ruV q.1, .int .i64 q.2]
set_option maxHeartbeats 4000000 in
set_option maxRecDepth 20000 in
theorem parseR_any (l : List Int) (hx : ∀ x ∈ l, 0 ≤ x ∧ x ≤ 255) (hm : l.length ≤ 140737488355328) (w : World) :
    Calls Tryd.prog 26 #[.string (strOfNums l)] w fun e w' => e = .returned (retR (parseR l)) ∧ Below w.heap.size w w' := by
  have hsz := strOfNums_size l
  by_cases hl : 400 < l.length
  · have E : Hid (retR (parseR l) = retR (ru0, 5)) := by
      unfold Hid parseR
      rw [if_pos hl]
    have hl' : 400 < (l.length : Int) := by omega
    go_enter Tryd.func26, Tryd.ntmps26
    go_wp2_with fail
    go_returns
    exact ⟨by rw [E.out]; rfl, up_alloc w _⟩
  · have hl' : ¬ 400 < (l.length : Int) := by omega
    have HW : Hid (∀ w', Calls Tryd.prog 48 #[.string (strOfNums l)] w' fun e w'' => ∃ a n c, e = .returned (.slice a n c) ∧ TextsW w'' (.slice a n c) (wordsL l) ∧ Below w'.heap.size w' w'') := fun w' => wordsR_any l hx (by omega) w'
    have WO := hid (wordsL_oct hx)
    by_cases h5 : (wordsL l).length = 5
    · obtain ⟨A, B, C, D, E, h5⟩ := five h5
      have PR : Hid (retR (parseR l) = retR (ruleOf A B C D E)) := by
        unfold Hid
        rw [parseR_five hl h5]
      have fo : ∀ (x : List Int), x ∈ wordsL l → (∀ y ∈ x, 0 ≤ y ∧ y ≤ 255) ∧ x.length ≤ 1000000 := fun x hxm => ⟨(WO.out x hxm).1, by have := (WO.out x hxm).2; omega⟩
      rw [h5] at fo HW
      have FA : Hid (∀ w', Calls Tryd.prog 49 #[.string (strOfNums A), .int .i64 0, .int .i64 59] w' fun e w'' => e = .returned (.int .u64 (fieldN A 0 59 : Int)) ∧ Below w'.heap.size w' w'') := fun w' => fieldR_any A 0 59 (by omega) (by omega) (fo A (by simp)).1 (fo A (by simp)).2 w'
      have FB : Hid (∀ w', Calls Tryd.prog 49 #[.string (strOfNums B), .int .i64 0, .int .i64 23] w' fun e w'' => e = .returned (.int .u64 (fieldN B 0 23 : Int)) ∧ Below w'.heap.size w' w'') := fun w' => fieldR_any B 0 23 (by omega) (by omega) (fo B (by simp)).1 (fo B (by simp)).2 w'
      have FC : Hid (∀ w', Calls Tryd.prog 49 #[.string (strOfNums C), .int .i64 1, .int .i64 31] w' fun e w'' => e = .returned (.int .u64 (fieldN C 1 31 : Int)) ∧ Below w'.heap.size w' w'') := fun w' => fieldR_any C 1 31 (by omega) (by omega) (fo C (by simp)).1 (fo C (by simp)).2 w'
      have FD : Hid (∀ w', Calls Tryd.prog 49 #[.string (strOfNums D), .int .i64 1, .int .i64 12] w' fun e w'' => e = .returned (.int .u64 (fieldN D 1 12 : Int)) ∧ Below w'.heap.size w' w'') := fun w' => fieldR_any D 1 12 (by omega) (by omega) (fo D (by simp)).1 (fo D (by simp)).2 w'
      have FE : Hid (∀ w', Calls Tryd.prog 49 #[.string (strOfNums E), .int .i64 0, .int .i64 7] w' fun e w'' => e = .returned (.int .u64 (fieldN E 0 7 : Int)) ∧ Below w'.heap.size w' w'') := fun w' => fieldR_any E 0 7 (by omega) (by omega) (fo E (by simp)).1 (fo E (by simp)).2 w'
      have sc := star_eq C (fo C (by simp)).1
      have se := star_eq E (fo E (by simp)).1
      have lA := fieldN_lt A 0 59
      have lB := fieldN_lt B 0 23
      have lC := fieldN_lt C 1 31
      have lD := fieldN_lt D 1 12
      have lE := fieldN_lt E 0 7
      obtain ⟨zc, hzc⟩ : ∃ z, z = decide (C = [42]) := ⟨_, rfl⟩
      obtain ⟨ze, hze⟩ : ∃ z, z = decide (E = [42]) := ⟨_, rfl⟩
      rw [← hzc] at sc
      rw [← hze] at se
      have RO : Hid (ruleOf A B C D E = if fieldN A 0 59 = 0 ∨ fieldN B 0 23 = 0 ∨ fieldN C 1 31 = 0 ∨ fieldN D 1 12 = 0 ∨ (if ze = true then 127 else fieldN E 0 7) = 0 then (ru0, 12)
          else (⟨fieldN A 0 59, fieldN B 0 23, fieldN C 1 31, fieldN D 1 12, weekN (if ze = true then 127 else fieldN E 0 7), zc, ze⟩, 0)) := by
        unfold Hid ruleOf
        rw [hzc, hze]
        simp only [decide_eq_true_eq]
      clear hzc hze fo
      generalize fieldN A 0 59 = nA at *
      generalize fieldN B 0 23 = nB at *
      generalize fieldN C 1 31 = nC at *
      generalize fieldN D 1 12 = nD at *
      generalize fieldN E 0 7 = nE at *
      generalize hSA : strOfNums A = SA at *
      generalize hSB : strOfNums B = SB at *
      generalize hSC : strOfNums C = SC at *
      generalize hSD : strOfNums D = SD at *
      generalize hSE : strOfNums E = SE at *
      go_enter Tryd.func26, Tryd.ntmps26
      go_wp2_with fail
      refine (HW.out _).mono ?_
      rintro e w1 ⟨a, n, c, rfl, ht, hb⟩
      obtain ⟨b, o, cc, ev, h5c, hmx, HX⟩ := texts5 ht
      simp only [Value.slice.injEq] at ev
      obtain ⟨rfl, rfl, rfl⟩ := ev
      rw [hSA, hSB, hSC, hSD, hSE] at HX
      have HX := hid HX
      have k1 := hid (blk_up (blk_new w _) hb)
      have u1 := hid (up_trans (up_alloc w _) hb)
      obtain ⟨x0, x1, x2, x3, x4⟩ := HX.out w1 (Below.refl _ _)
      clear ht hb HW hSA hSB hSC hSD hSE hx hm hsz
      unfold maxLen at hmx
      go_upto_region 6 with fail
      go_cut [5] from 7 (fun v5 wx => ∃ N5, v5 = .pointer (some ⟨N5, 0, none⟩) ∧ Hid (wx.heap[N5]? = some (.cells #[.int .u64 (nA : Int), .int .u64 (nB : Int), .int .u64 (nC : Int), .int .u64 (nD : Int), .int .u64 0, .bool zc, .bool ze] 58) ∧ w1.heap.size ≤ N5) ∧ Hid (Below w1.heap.size w1 wx))
      case first =>
        go_region_held3 (fun w' => w'.cell? ⟨b, o, none⟩ = some (.string SA) ∧ w'.cell? ⟨b, o + 1, none⟩ = some (.string SB) ∧ w'.cell? ⟨b, o + 2, none⟩ = some (.string SC) ∧ w'.cell? ⟨b, o + 3, none⟩ = some (.string SD) ∧ w'.cell? ⟨b, o + 4, none⟩ = some (.string SE))
          (first | with_reducible exact ⟨x0, x1, x2, x3, x4⟩ | (with_reducible refine HX.out _ ?_; (repeat (first | with_reducible exact up_set7 y4.out zs.out _ _ _ _ _ _ _ | with_reducible exact y4.out | with_reducible exact y3.out | with_reducible exact y2.out | with_reducible exact y1.out | with_reducible exact Below.refl _ _ | with_reducible refine up_dr ?_ | with_reducible refine up_al ?_ _)); done))
          (first
          | (go_at_call 49; with_reducible refine (FB.out _).mono ?_; rintro e w3 ⟨rfl, hb3⟩
             first
             | (have y2 := hid (show Below w1.heap.size w1 w3 by with_reducible exact up_trans y1.out hb3)
                try (have zz := hid (blk_up zz.out hb3)))
             | (have y2 := hid (show Below w1.heap.size w1 w3 by with_reducible exact up_trans (up_al y1.out _) hb3)
                have zz := hid (blk_up (blk_new w2 _) hb3)
                have zs := hid y1.out.size))
          | (go_at_call 49; with_reducible refine (FC.out _).mono ?_; rintro e w4 ⟨rfl, hb4⟩
             first
             | (have y3 := hid (show Below w1.heap.size w1 w4 by with_reducible exact up_trans y2.out hb4)
                try (have zz := hid (blk_up zz.out hb4)))
             | (have y3 := hid (show Below w1.heap.size w1 w4 by with_reducible exact up_trans (up_al y2.out _) hb4)
                have zz := hid (blk_up (blk_new w3 _) hb4)
                have zs := hid y2.out.size))
          | (go_at_call 49; with_reducible refine (FD.out _).mono ?_; rintro e w5 ⟨rfl, hb5⟩
             first
             | (have y4 := hid (show Below w1.heap.size w1 w5 by with_reducible exact up_trans y3.out hb5)
                try (have zz := blk_up zz.out hb5
                     have c0 := blk_cell zz 0 _ rfl
                     have c1 := blk_cell zz 1 _ rfl
                     have c2 := blk_cell zz 2 _ rfl
                     have c3 := blk_cell zz 3 _ rfl
                     have c4 := blk_cell zz 4 _ rfl
                     have c5 := blk_cell zz 5 _ rfl
                     have c6 := blk_cell zz 6 _ rfl
                     have f0 := blk_frozen zz 0
                     have f1 := blk_frozen zz 1
                     have f2 := blk_frozen zz 2
                     have f3 := blk_frozen zz 3
                     have f4 := blk_frozen zz 4
                     have f5 := blk_frozen zz 5
                     have f6 := blk_frozen zz 6))
             | (have y4 := hid (show Below w1.heap.size w1 w5 by with_reducible exact up_trans (up_al y3.out _) hb5)
                have zz := blk_up (blk_new w4 _) hb5
                have zs := hid y3.out.size
                have c0 := blk_cell zz 0 _ rfl
                have c1 := blk_cell zz 1 _ rfl
                have c2 := blk_cell zz 2 _ rfl
                have c3 := blk_cell zz 3 _ rfl
                have c4 := blk_cell zz 4 _ rfl
                have c5 := blk_cell zz 5 _ rfl
                have c6 := blk_cell zz 6 _ rfl
                have f0 := blk_frozen zz 0
                have f1 := blk_frozen zz 1
                have f2 := blk_frozen zz 2
                have f3 := blk_frozen zz 3
                have f4 := blk_frozen zz 4
                have f5 := blk_frozen zz 5
                have f6 := blk_frozen zz 6))
          | (go_at_call 49; with_reducible refine (FA.out _).mono ?_; rintro e w2 ⟨rfl, hb2⟩
             first
             | (have y1 := hid (show Below w1.heap.size w1 w2 by with_reducible exact hb2))
             | (have y1 := hid (show Below w1.heap.size w1 w2 by with_reducible exact up_trans (up_dr (Below.refl _ _)) hb2))
             | (have y1 := hid (show Below w1.heap.size w1 w2 by with_reducible exact up_trans (up_al (Below.refl _ _) _) hb2)
                have zz := hid (blk_up (blk_new w1 _) hb2)
                have zs : Hid (w1.heap.size ≤ w1.heap.size) := Nat.le_refl _)
             | (have y1 := hid (show Below w1.heap.size w1 w2 by with_reducible exact up_trans (up_dr (up_al (Below.refl _ _) _)) hb2)
                have zz0 := blk_up (show ((w1.alloc (.cells #[.int .u64 0, .int .u64 0, .int .u64 0, .int .u64 0, .int .u64 0, .bool false, .bool false] 58)).drew).heap[w1.heap.size]? = some _ from blk_new w1 _) hb2
                have zz := hid zz0
                have zs : Hid (w1.heap.size ≤ w1.heap.size) := Nat.le_refl _)))
        all_goals
          go_wp2_with fail
          go_meet
          case rel =>
            refine ⟨_, rfl, ?_, ?_⟩
            · unfold Hid
              refine ⟨?_, ?_⟩
              · with_reducible first | exact blk_new w5 _ | exact set7_blk zz _ _ _ _ _ _ _
              · with_reducible first | exact zs.out | exact y4.out.size
            · unfold Hid
              with_reducible first | exact up_al y4.out _ | exact up_set7 y4.out zs.out _ _ _ _ _ _ _
      case rest =>
      obtain ⟨N5, rfl, HK5, HU5⟩ := hcut
      obtain ⟨-, -, -, -, x4'⟩ := HX.out wc HU5.out
      have k5 := HK5.out.1
      have ku := hid (blk_up k1.out HU5.out)
      have uu := hid (up_trans u1.out HU5.out)
      have s5 : w.heap.size < N5 := by
        have h1 := blk_lt k1.out
        have h2 := HK5.out.2
        omega
      have S5 := hid s5
      clear x0 x1 x2 x3 x4 FA FB FC FD HX k1 u1 HU5 HK5
      go_wp2_with fail
      refine (FE.out _).mono ?_
      rintro e w7 ⟨rfl, hb7⟩
      have k7 := blk_up k5 hb7
      have ku7 := blk_up ku.out hb7
      have x7 := (hb7.cell (World.block_lt_of_cell? wc _ x4')).trans x4'
      have uu7 := hid (up_trans uu.out hb7)
      have d4 := blk_cell k7 4 _ rfl
      have e4 := blk_frozen k7 4
      have K7 := hid k7
      have KU7 := hid ku7
      clear k5 ku x4' hb7 uu FE k7 ku7
      cases ze
      · go_upto_region 11 with fail
        have K8 := blk_set K7.out 4 (.int .u64 (weekN nE : Int))
        have U8 := grown_set w7 ⟨N5, 4, none⟩ (.int .u64 (weekN nE : Int))
        rw [← week_bits nE lE] at K8 U8
        generalize hW8 : World.setCell w7 _ _ = W8 at *
        have KU8 := blk_grown KU7.out U8 (by have := S5.out; simp; omega)
        have UU8 : Hid (Below w.heap.size w W8) := uu7.out.grown U8 uu7.out.size (fun q hq => by cases hq; exact Nat.le_of_lt S5.out)
        rw [week_bits nE lE] at K8
        simp only [List.setIfInBounds_toArray, List.set_cons_zero, List.set_cons_succ] at K8
        clear hW8 U8 K7 KU7 x7 d4 e4 uu7
        have a0 := blk_cell K8 0 _ rfl
        have a1 := blk_cell K8 1 _ rfl
        have a2 := blk_cell K8 2 _ rfl
        have a3 := blk_cell K8 3 _ rfl
        have a4 := blk_cell K8 4 _ rfl
        have a5 := blk_cell K8 5 _ rfl
        have a6 := blk_cell K8 6 _ rfl
        have z0 := blk_cell KU8 0 _ rfl
        have z1 := blk_cell KU8 1 _ rfl
        have z2 := blk_cell KU8 2 _ rfl
        have z3 := blk_cell KU8 3 _ rfl
        have z4 := blk_cell KU8 4 _ rfl
        have z5 := blk_cell KU8 5 _ rfl
        have z6 := blk_cell KU8 6 _ rfl
        have g0 := blk_frozen KU8 0
        have g1 := blk_frozen KU8 1
        have g2 := blk_frozen KU8 2
        have g3 := blk_frozen KU8 3
        have g4 := blk_frozen KU8 4
        have g5 := blk_frozen KU8 5
        have g6 := blk_frozen KU8 6
        have KUH := hid KU8
        clear K8 KU8
        by_cases h0 : nA = 0
        · have t0 : ((nA : Int) == 0) = true := by rw [h0]; rfl
          have RE : Hid (ruleOf A B C D E = (ru0, 12)) := RO.out.trans (if_pos (by first | exact .inl h0 | exact .inr (.inl h0) | exact .inr (.inr (.inl h0)) | exact .inr (.inr (.inr (.inl h0))) | exact .inr (.inr (.inr (.inr (by simpa using h0))))))
          have H0 := hid h0
          clear h0
          go_wp2_with fail
          refine bodyPost_ret (results_ru rfl _ _ rfl (set7_blk KUH.out _ _ _ _ _ _ _)) rfl ?_
          exact ⟨by rw [PR.out, RE.out]; rfl, UU8.out.grown (set7_grown _ _ _ _ _ _ _ _ _) UU8.out.size (fun q hq => by cases hq; exact Nat.le_refl _)⟩
        have t0 : ((nA : Int) == 0) = false := (beq_nat nA 0).trans (by simpa using h0)
        have H0 := hid h0
        clear h0
        by_cases h1 : nB = 0
        · have t1 : ((nB : Int) == 0) = true := by rw [h1]; rfl
          have RE : Hid (ruleOf A B C D E = (ru0, 12)) := RO.out.trans (if_pos (by first | exact .inl h1 | exact .inr (.inl h1) | exact .inr (.inr (.inl h1)) | exact .inr (.inr (.inr (.inl h1))) | exact .inr (.inr (.inr (.inr (by simpa using h1))))))
          have H1 := hid h1
          clear h1
          go_wp2_with fail
          refine bodyPost_ret (results_ru rfl _ _ rfl (set7_blk KUH.out _ _ _ _ _ _ _)) rfl ?_
          exact ⟨by rw [PR.out, RE.out]; rfl, UU8.out.grown (set7_grown _ _ _ _ _ _ _ _ _) UU8.out.size (fun q hq => by cases hq; exact Nat.le_refl _)⟩
        have t1 : ((nB : Int) == 0) = false := (beq_nat nB 0).trans (by simpa using h1)
        have H1 := hid h1
        clear h1
        by_cases h2 : nC = 0
        · have t2 : ((nC : Int) == 0) = true := by rw [h2]; rfl
          have RE : Hid (ruleOf A B C D E = (ru0, 12)) := RO.out.trans (if_pos (by first | exact .inl h2 | exact .inr (.inl h2) | exact .inr (.inr (.inl h2)) | exact .inr (.inr (.inr (.inl h2))) | exact .inr (.inr (.inr (.inr (by simpa using h2))))))
          have H2 := hid h2
          clear h2
          go_wp2_with fail
          refine bodyPost_ret (results_ru rfl _ _ rfl (set7_blk KUH.out _ _ _ _ _ _ _)) rfl ?_
          exact ⟨by rw [PR.out, RE.out]; rfl, UU8.out.grown (set7_grown _ _ _ _ _ _ _ _ _) UU8.out.size (fun q hq => by cases hq; exact Nat.le_refl _)⟩
        have t2 : ((nC : Int) == 0) = false := (beq_nat nC 0).trans (by simpa using h2)
        have H2 := hid h2
        clear h2
        by_cases h3 : nD = 0
        · have t3 : ((nD : Int) == 0) = true := by rw [h3]; rfl
          have RE : Hid (ruleOf A B C D E = (ru0, 12)) := RO.out.trans (if_pos (by first | exact .inl h3 | exact .inr (.inl h3) | exact .inr (.inr (.inl h3)) | exact .inr (.inr (.inr (.inl h3))) | exact .inr (.inr (.inr (.inr (by simpa using h3))))))
          have H3 := hid h3
          clear h3
          go_wp2_with fail
          refine bodyPost_ret (results_ru rfl _ _ rfl (set7_blk KUH.out _ _ _ _ _ _ _)) rfl ?_
          exact ⟨by rw [PR.out, RE.out]; rfl, UU8.out.grown (set7_grown _ _ _ _ _ _ _ _ _) UU8.out.size (fun q hq => by cases hq; exact Nat.le_refl _)⟩
        have t3 : ((nD : Int) == 0) = false := (beq_nat nD 0).trans (by simpa using h3)
        have H3 := hid h3
        clear h3
        by_cases h4 : nE = 0
        · have t4 : ((nE : Int) == 0) = true := by rw [h4]; rfl
          have RE : Hid (ruleOf A B C D E = (ru0, 12)) := RO.out.trans (if_pos (by first | exact .inl h4 | exact .inr (.inl h4) | exact .inr (.inr (.inl h4)) | exact .inr (.inr (.inr (.inl h4))) | exact .inr (.inr (.inr (.inr (by simpa using h4))))))
          have H4 := hid h4
          clear h4
          go_wp2_with fail
          refine bodyPost_ret (results_ru rfl _ _ rfl (set7_blk KUH.out _ _ _ _ _ _ _)) rfl ?_
          exact ⟨by rw [PR.out, RE.out]; rfl, UU8.out.grown (set7_grown _ _ _ _ _ _ _ _ _) UU8.out.size (fun q hq => by cases hq; exact Nat.le_refl _)⟩
        have t4 : ((nE : Int) == 0) = false := (beq_nat nE 0).trans (by simpa using h4)
        have H4 := hid h4
        clear h4
        have RE : Hid (ruleOf A B C D E = (⟨nA, nB, nC, nD, weekN nE, zc, false⟩, 0)) := by
          unfold Hid
          rw [RO.out, if_neg]
          · rw [if_neg (by simp)]
          · rintro (q | q | q | q | q)
            · exact H0.out q
            · exact H1.out q
            · exact H2.out q
            · exact H3.out q
            · exact H4.out (by simpa using q)
        go_wp2_with fail
        refine bodyPost_ret (results_ru rfl _ _ rfl (set7_blk KUH.out _ _ _ _ _ _ _)) rfl ?_
        exact ⟨by rw [PR.out, RE.out]; rfl, UU8.out.grown (set7_grown _ _ _ _ _ _ _ _ _) UU8.out.size (fun q hq => by cases hq; exact Nat.le_refl _)⟩
      · go_upto_region 11 with fail
        have K8 := blk_set K7.out 4 (.int .u64 (weekN 127 : Int))
        have U8 := grown_set w7 ⟨N5, 4, none⟩ (.int .u64 (weekN 127 : Int))
        rw [← week_star] at K8 U8
        generalize hW8 : World.setCell w7 _ _ = W8 at *
        have KU8 := blk_grown KU7.out U8 (by have := S5.out; simp; omega)
        have UU8 : Hid (Below w.heap.size w W8) := uu7.out.grown U8 uu7.out.size (fun q hq => by cases hq; exact Nat.le_of_lt S5.out)
        rw [week_star] at K8
        simp only [List.setIfInBounds_toArray, List.set_cons_zero, List.set_cons_succ] at K8
        clear hW8 U8 K7 KU7 x7 d4 e4 uu7
        have a0 := blk_cell K8 0 _ rfl
        have a1 := blk_cell K8 1 _ rfl
        have a2 := blk_cell K8 2 _ rfl
        have a3 := blk_cell K8 3 _ rfl
        have a4 := blk_cell K8 4 _ rfl
        have a5 := blk_cell K8 5 _ rfl
        have a6 := blk_cell K8 6 _ rfl
        have z0 := blk_cell KU8 0 _ rfl
        have z1 := blk_cell KU8 1 _ rfl
        have z2 := blk_cell KU8 2 _ rfl
        have z3 := blk_cell KU8 3 _ rfl
        have z4 := blk_cell KU8 4 _ rfl
        have z5 := blk_cell KU8 5 _ rfl
        have z6 := blk_cell KU8 6 _ rfl
        have g0 := blk_frozen KU8 0
        have g1 := blk_frozen KU8 1
        have g2 := blk_frozen KU8 2
        have g3 := blk_frozen KU8 3
        have g4 := blk_frozen KU8 4
        have g5 := blk_frozen KU8 5
        have g6 := blk_frozen KU8 6
        have KUH := hid KU8
        clear K8 KU8
        by_cases h0 : nA = 0
        · have t0 : ((nA : Int) == 0) = true := by rw [h0]; rfl
          have RE : Hid (ruleOf A B C D E = (ru0, 12)) := RO.out.trans (if_pos (by first | exact .inl h0 | exact .inr (.inl h0) | exact .inr (.inr (.inl h0)) | exact .inr (.inr (.inr (.inl h0))) | exact .inr (.inr (.inr (.inr (by simpa using h0))))))
          have H0 := hid h0
          clear h0
          go_wp2_with fail
          refine bodyPost_ret (results_ru rfl _ _ rfl (set7_blk KUH.out _ _ _ _ _ _ _)) rfl ?_
          exact ⟨by rw [PR.out, RE.out]; rfl, UU8.out.grown (set7_grown _ _ _ _ _ _ _ _ _) UU8.out.size (fun q hq => by cases hq; exact Nat.le_refl _)⟩
        have t0 : ((nA : Int) == 0) = false := (beq_nat nA 0).trans (by simpa using h0)
        have H0 := hid h0
        clear h0
        by_cases h1 : nB = 0
        · have t1 : ((nB : Int) == 0) = true := by rw [h1]; rfl
          have RE : Hid (ruleOf A B C D E = (ru0, 12)) := RO.out.trans (if_pos (by first | exact .inl h1 | exact .inr (.inl h1) | exact .inr (.inr (.inl h1)) | exact .inr (.inr (.inr (.inl h1))) | exact .inr (.inr (.inr (.inr (by simpa using h1))))))
          have H1 := hid h1
          clear h1
          go_wp2_with fail
          refine bodyPost_ret (results_ru rfl _ _ rfl (set7_blk KUH.out _ _ _ _ _ _ _)) rfl ?_
          exact ⟨by rw [PR.out, RE.out]; rfl, UU8.out.grown (set7_grown _ _ _ _ _ _ _ _ _) UU8.out.size (fun q hq => by cases hq; exact Nat.le_refl _)⟩
        have t1 : ((nB : Int) == 0) = false := (beq_nat nB 0).trans (by simpa using h1)
        have H1 := hid h1
        clear h1
        by_cases h2 : nC = 0
        · have t2 : ((nC : Int) == 0) = true := by rw [h2]; rfl
          have RE : Hid (ruleOf A B C D E = (ru0, 12)) := RO.out.trans (if_pos (by first | exact .inl h2 | exact .inr (.inl h2) | exact .inr (.inr (.inl h2)) | exact .inr (.inr (.inr (.inl h2))) | exact .inr (.inr (.inr (.inr (by simpa using h2))))))
          have H2 := hid h2
          clear h2
          go_wp2_with fail
          refine bodyPost_ret (results_ru rfl _ _ rfl (set7_blk KUH.out _ _ _ _ _ _ _)) rfl ?_
          exact ⟨by rw [PR.out, RE.out]; rfl, UU8.out.grown (set7_grown _ _ _ _ _ _ _ _ _) UU8.out.size (fun q hq => by cases hq; exact Nat.le_refl _)⟩
        have t2 : ((nC : Int) == 0) = false := (beq_nat nC 0).trans (by simpa using h2)
        have H2 := hid h2
        clear h2
        by_cases h3 : nD = 0
        · have t3 : ((nD : Int) == 0) = true := by rw [h3]; rfl
          have RE : Hid (ruleOf A B C D E = (ru0, 12)) := RO.out.trans (if_pos (by first | exact .inl h3 | exact .inr (.inl h3) | exact .inr (.inr (.inl h3)) | exact .inr (.inr (.inr (.inl h3))) | exact .inr (.inr (.inr (.inr (by simpa using h3))))))
          have H3 := hid h3
          clear h3
          go_wp2_with fail
          refine bodyPost_ret (results_ru rfl _ _ rfl (set7_blk KUH.out _ _ _ _ _ _ _)) rfl ?_
          exact ⟨by rw [PR.out, RE.out]; rfl, UU8.out.grown (set7_grown _ _ _ _ _ _ _ _ _) UU8.out.size (fun q hq => by cases hq; exact Nat.le_refl _)⟩
        have t3 : ((nD : Int) == 0) = false := (beq_nat nD 0).trans (by simpa using h3)
        have H3 := hid h3
        clear h3
        have RE : Hid (ruleOf A B C D E = (⟨nA, nB, nC, nD, weekN 127, zc, true⟩, 0)) := by
          unfold Hid
          rw [RO.out, if_neg]
          · simp
          · rintro (q | q | q | q | q)
            · exact H0.out q
            · exact H1.out q
            · exact H2.out q
            · exact H3.out q
            · simp at q
        go_wp2_with fail
        refine bodyPost_ret (results_ru rfl _ _ rfl (set7_blk KUH.out _ _ _ _ _ _ _)) rfl ?_
        exact ⟨by rw [PR.out, RE.out]; rfl, UU8.out.grown (set7_grown _ _ _ _ _ _ _ _ _) UU8.out.size (fun q hq => by cases hq; exact Nat.le_refl _)⟩
    · have E : Hid (retR (parseR l) = retR (ru0, 3)) := by
        unfold Hid
        rw [parseR_not hl h5]
      go_enter Tryd.func26, Tryd.ntmps26
      go_wp2_with fail
      refine (HW.out _).mono ?_
      rintro e w1 ⟨a, n, c, rfl, ht, hb⟩
      obtain ⟨a', c', e', _, hmx⟩ := ht.len
      simp only [Value.slice.injEq] at e'
      obtain ⟨rfl, hn, rfl⟩ := e'
      have n5 : ¬ n = 5 := by omega
      have n5' : ((n : Int) != 5) = true := by simp; omega
      have k1 := blk_up (blk_new w _) hb
      have c0 := blk_cell k1 0 _ rfl
      have c1 := blk_cell k1 1 _ rfl
      have c2 := blk_cell k1 2 _ rfl
      have c3 := blk_cell k1 3 _ rfl
      have c4 := blk_cell k1 4 _ rfl
      have c5 := blk_cell k1 5 _ rfl
      have c6 := blk_cell k1 6 _ rfl
      have f0 := blk_frozen k1 0
      have f1 := blk_frozen k1 1
      have f2 := blk_frozen k1 2
      have f3 := blk_frozen k1 3
      have f4 := blk_frozen k1 4
      have f5 := blk_frozen k1 5
      have f6 := blk_frozen k1 6
      have hb' := hid (up_trans (up_alloc w _) hb)
      clear ht hb
      unfold maxLen at hmx
      go_wp2_with fail
      refine bodyPost_ret (results_ru rfl _ _ rfl (set7_blk k1 _ _ _ _ _ _ _)) rfl ?_
      exact ⟨by rw [E.out]; rfl, hb'.out.grown (set7_grown _ _ _ _ _ _ _ _ _) hb'.out.size (fun k hk => by cases hk; exact Nat.le_refl _)⟩
end Go.Proofs.YtpjmieiajhhbaaaDoor
