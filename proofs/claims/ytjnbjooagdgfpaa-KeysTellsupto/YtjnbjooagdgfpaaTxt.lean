/- keys.firstText and the document's text: for any text they return what the plain function 'txt' says. -/
import Derived.Test.YtjnbjooagdgfpaaCheck
import Derived.Test.YtjnbjooagdgfpaaAdd
namespace Go.Proofs.Ytjnbjooagdgfpaa
open Go.RowKit
set_option linter.unusedVariables false

/-- A text's octets read: what was read, the place, what is left; the text, how many octets, the error. -/
def txt : List Int → Nat → List Int → List Int × Nat × Int
  | _, _, [] => ([], 0, 8)
  | _, _, [_] => ([], 0, 8)
  | a, k, x :: y :: r => if x = 0 then (if y = 1 then (a, k + 2, 0) else if y = 255 then txt (a ++ [0]) (k + 2) r else ([], 0, 1)) else txt (a ++ [x]) (k + 1) (y :: r)

theorem txt_plain (a : List Int) (k : Nat) (x : Int) (r : List Int) (h : ¬ x = 0) : txt a k (x :: r) = txt (a ++ [x]) (k + 1) r := by
  cases r with
  | nil => rfl
  | cons y r => rw [txt, if_neg h]
theorem txt_end (a : List Int) (k : Nat) (r : List Int) : txt a k (0 :: 1 :: r) = (a, k + 2, 0) := by rw [txt, if_pos rfl, if_pos rfl]
theorem txt_zero (a : List Int) (k : Nat) (r : List Int) : txt a k (0 :: 255 :: r) = txt (a ++ [0]) (k + 2) r := by rw [txt, if_pos rfl, if_neg (by decide), if_pos rfl]
theorem txt_bad (a : List Int) (k : Nat) (y : Int) (r : List Int) (h1 : ¬ y = 1) (h2 : ¬ y = 255) : txt a k (0 :: y :: r) = ([], 0, 1) := by rw [txt, if_pos rfl, if_neg h1, if_neg h2]

theorem drop_getD (l : List Int) (k : Nat) (h : k < l.length) : l.drop k = l.getD k 0 :: l.drop (k + 1) := by
  rw [List.drop_eq_getElem_cons h]
  simp [List.getD, h]

theorem cells_set3 {w : World} {N : Nat} {x y z : Value} (a b c : Value) (h0 : w.cell? ⟨N, 0, none⟩ = some x) (h1 : w.cell? ⟨N, 1, none⟩ = some y) (h2 : w.cell? ⟨N, 2, none⟩ = some z) :
    (((w.setCell ⟨N, 0, none⟩ a).setCell ⟨N, 1, none⟩ b).setCell ⟨N, 2, none⟩ c).cell? ⟨N, 0, none⟩ = some a ∧ (((w.setCell ⟨N, 0, none⟩ a).setCell ⟨N, 1, none⟩ b).setCell ⟨N, 2, none⟩ c).cell? ⟨N, 1, none⟩ = some b ∧ (((w.setCell ⟨N, 0, none⟩ a).setCell ⟨N, 1, none⟩ b).setCell ⟨N, 2, none⟩ c).cell? ⟨N, 2, none⟩ = some c := by
  have n01 : (⟨N, 0, none⟩ : Addr) ≠ ⟨N, 1, none⟩ := by simp
  have n02 : (⟨N, 0, none⟩ : Addr) ≠ ⟨N, 2, none⟩ := by simp
  have n12 : (⟨N, 1, none⟩ : Addr) ≠ ⟨N, 2, none⟩ := by simp
  refine ⟨?_, ?_, ?_⟩
  · rw [World.cell?_setCell_other (h := n02.symm) .., World.cell?_setCell_other (h := n01.symm) ..]
    exact World.cell?_setCell_same (h := h0) ..
  · rw [World.cell?_setCell_other (h := n12.symm) ..]
    refine World.cell?_setCell_same (u := y) (h := ?_) ..
    rw [World.cell?_setCell_other (h := n01) ..]
    exact h1
  · refine World.cell?_setCell_same (u := z) (h := ?_) ..
    rw [World.cell?_setCell_other (h := n12) .., World.cell?_setCell_other (h := n02) ..]
    exact h2

/-- A part through the result's own block, and two numbers. -/
theorem results_part {fn : Func} (h : fn.results = #[.cell 2 49, .tmp 3, .tmp 4]) (tmps : Array Value) (w : World) {N : Nat} {x y z : Value} (ht : tmps.getD 2 undef = .pointer (some ⟨N, 0, none⟩))
    (hc : w.cell? ⟨N, 0, none⟩ = some x ∧ w.cell? ⟨N, 1, none⟩ = some y ∧ w.cell? ⟨N, 2, none⟩ = some z) :
    (results fn tmps).run Try.prog w = .ok (.tuple #[.agg #[x, y, z], tmps.getD 3 undef, tmps.getD 4 undef]) w := by
  obtain ⟨c0, c1, c2⟩ := hc
  have ht' : tmps[2]?.getD undef = .pointer (some ⟨N, 0, none⟩) := by simpa using ht
  simp only [results, h]
  simp [ht', go_sem, c0, c1, c2]

set_option maxHeartbeats 2000000 in
theorem firstText_any (s : List Int) (hs : ∀ x ∈ s, 0 ≤ x ∧ x ≤ 255) (h1 : 1 ≤ s.length) (hm : s.length ≤ 35184372088832) (w : World) :
    Calls Try.prog 32 #[.string (strOfNums s)] w fun e w' => e = .returned (.tuple #[pval (false, 0, (txt [] 1 (s.drop 1)).1), .int .i64 (txt [] 1 (s.drop 1)).2.1, .int .i64 (txt [] 1 (s.drop 1)).2.2]) ∧ Below w.heap.size w w' := by
  have hsz := str_size s
  have U0 : Hid (Below w.heap.size w (w.alloc (.cells #[.bool false, .int .i64 0, .string ⟨#[]⟩] 49))) := up_al (Below.refl _ _) _
  go_enter Try.func32, Try.ntmps32
  go_wp2
  generalize hw0 : w.alloc (.cells #[.bool false, .int .i64 0, .string ⟨#[]⟩] 49) = w0 at *
  have HN : Hid (w0.heap.size = w.heap.size + 1) := by unfold Hid; rw [← hw0]; simp
  have HCell : Hid (∀ wr, Below w0.heap.size w0 wr → (wr.cell? ⟨w.heap.size, 0, none⟩ = some (.bool false) ∧ wr.cell? ⟨w.heap.size, 1, none⟩ = some (.int .i64 0) ∧ wr.cell? ⟨w.heap.size, 2, none⟩ = some (.string ⟨#[]⟩)) ∧ wr.frozen? ⟨w.heap.size, 0, none⟩ = false ∧ wr.frozen? ⟨w.heap.size, 1, none⟩ = false ∧ wr.frozen? ⟨w.heap.size, 2, none⟩ = false) := by
    intro wr hb
    have k : ∀ i x, w0.cell? ⟨w.heap.size, i, none⟩ = some x → wr.cell? ⟨w.heap.size, i, none⟩ = some x := fun i x hc => (hb.cell (p := ⟨w.heap.size, i, none⟩) (World.block_lt_of_cell? w0 _ hc)).trans hc
    have f : ∀ i, wr.frozen? ⟨w.heap.size, i, none⟩ = false := fun i => (hb.frozen (p := ⟨w.heap.size, i, none⟩) (by show w.heap.size < _; rw [HN.out]; omega)).trans (by rw [← hw0]; simp)
    exact ⟨⟨k _ _ (by rw [← hw0]; simp), k _ _ (by rw [← hw0]; simp), k _ _ (by rw [← hw0]; simp)⟩, f 0, f 1, f 2⟩
  have fin : ∀ (wr : World) (x y z : Value), Below w0.heap.size w0 wr → Hid (Below w.heap.size w (((wr.setCell ⟨w.heap.size, 0, none⟩ x).setCell ⟨w.heap.size, 1, none⟩ y).setCell ⟨w.heap.size, 2, none⟩ z)) := fun wr x y z hb =>
    (((up_trans U0.out hb).setCell (Nat.le_refl _) _).setCell (Nat.le_refl _) _).setCell (Nat.le_refl _) _
  have HF : Hid (∀ (wr : World) (x y z : Value), Below w0.heap.size w0 wr → Hid (Below w.heap.size w (((wr.setCell ⟨w.heap.size, 0, none⟩ x).setCell ⟨w.heap.size, 1, none⟩ y).setCell ⟨w.heap.size, 2, none⟩ z))) := fin
  clear fin U0 hw0
  go_loopw [5, 6] (fun vb i wr => ∃ (k : Nat) (a : List Int), 1 ≤ k ∧ k ≤ s.length ∧ i = .int .i64 k ∧ Hid (OwnB wr w0.heap.size vb a) ∧ Hid (∀ x ∈ a, 0 ≤ x ∧ x ≤ 255) ∧ a.length ≤ k ∧ Hid (txt a k (s.drop k) = txt [] 1 (s.drop 1)) ∧ Hid (Below w0.heap.size w0 wr)) (fun _ i _ => s.length - (intOf i).toNat)
  case atStart => exact ⟨1, [], Nat.le_refl _, h1, rfl, OwnB.nil _ _, (fun x hx => by cases hx), by simp, rfl, Below.refl _ _⟩
  case round =>
    obtain ⟨k, a, hk1, hk, rfl, HW, HO, hal, HT, HB⟩ := hrel
    obtain ⟨⟨x0, x1, x2⟩, f0, f1, f2⟩ := HCell.out wr HB.out
    have hzr := HB.out.size
    by_cases hlt : k < s.length
    · have hks : k < (strOfNums s).size := by omega
      have hy := str_at s hs k hks
      have hyb : 0 ≤ s.getD k 0 ∧ s.getD k 0 ≤ 255 := hs _ (by simp [List.getD, hlt])
      have HD : Hid (s.drop k = s.getD k 0 :: s.drop (k + 1)) := drop_getD s k hlt
      generalize s.getD k 0 = y at *
      by_cases c : y = 0
      · subst c
        by_cases hlt2 : k + 1 < s.length
        · have hks2 : k + 1 < (strOfNums s).size := by omega
          have hz := str_at s hs (k + 1) hks2
          have hzb : 0 ≤ s.getD (k + 1) 0 ∧ s.getD (k + 1) 0 ≤ 255 := hs _ (by simp [List.getD, hlt2])
          have HD2 : Hid (s.drop (k + 1) = s.getD (k + 1) 0 :: s.drop (k + 1 + 1)) := drop_getD s (k + 1) hlt2
          generalize s.getD (k + 1) 0 = z at *
          have ne : ¬ ((k : Int) + 1 = (s.length : Int)) := by omega
          have neb : (((k : Int) + 1) == (s.length : Int)) = false := by simp [ne]
          by_cases d1 : z = 1
          · subst d1
            have HE : Hid (txt [] 1 (s.drop 1) = (a, k + 2, 0)) := by unfold Hid; rw [← HT.out, HD.out, HD2.out, txt_end]
            have kc := run_convert_octs a _ _ (Octs.own HW.out HO.out)
            go_wp2
            refine bodyPost_ret (results_part rfl _ _ rfl (cells_set3 _ _ _ x0 x1 x2)) rfl ?_
            rw [HE.out]
            exact ⟨rfl, (HF.out _ _ _ _ HB.out).out⟩
          · have d1b : (z == 1) = false := by simp [d1]
            by_cases d2 : z = 255
            · subst d2
              have HT2 : Hid (txt (a ++ [0]) (k + 2) (s.drop (k + 2)) = txt [] 1 (s.drop 1)) := by unfold Hid; rw [← HT.out, HD.out, HD2.out, txt_zero]
              go_wp2_with (at_builtin; refine wpList_append_lits _ rfl _ _ rfl w0.heap.size _ a rfl HW.out [0] 1 _ rfl rfl ?cs ?c1 ?c2 ?c3 ?_)
              case cs => rfl
              case c1 => decide
              case c2 => simp; omega
              case c3 => omega
              intro v1 w1 ho1 hb1
              have HB1 : Hid (Below w0.heap.size w0 w1) := HB.out.trans hb1
              have HW1 : Hid (OwnB w1 w0.heap.size v1 (a ++ [0])) := ho1
              have HO1 : Hid (∀ x ∈ a ++ [0], 0 ≤ x ∧ x ≤ 255) := by
                intro x hx
                rcases List.mem_append.1 hx with h | h
                · exact HO.out x h
                · simp at h; omega
              have hal1 : (a ++ [0]).length ≤ k + 2 := by simp; omega
              clear ho1 hb1 HW HB HT HD HD2 HO
              go_wp2
              exact ⟨⟨k + 2, a ++ [0], by omega, by omega, by go_num, HW1, HO1, hal1, HT2, HB1⟩, by simp [intOf]; omega⟩
            · have d2b : (z == 255) = false := by simp [d2]
              have HE : Hid (txt [] 1 (s.drop 1) = ([], 0, 1)) := by unfold Hid; rw [← HT.out, HD.out, HD2.out, txt_bad _ _ _ _ d1 d2]
              go_wp2
              refine bodyPost_ret (results_part rfl _ _ rfl (cells_set3 _ _ _ x0 x1 x2)) rfl ?_
              rw [HE.out]
              exact ⟨rfl, (HF.out _ _ _ _ HB.out).out⟩
        · have ek : ((k : Int) + 1) = (s.length : Int) := by omega
          have ekb : (((k : Int) + 1) == (s.length : Int)) = true := by simp [ek]
          have HE : Hid (txt [] 1 (s.drop 1) = ([], 0, 8)) := by
            unfold Hid
            rw [← HT.out, HD.out, List.drop_eq_nil_iff.2 (by omega)]
            rfl
          go_wp2
          refine bodyPost_ret (results_part rfl _ _ rfl (cells_set3 _ _ _ x0 x1 x2)) rfl ?_
          rw [HE.out]
          exact ⟨rfl, (HF.out _ _ _ _ HB.out).out⟩
      · have cb : (y == 0) = false := by simp [c]
        have HT2 : Hid (txt (a ++ [y]) (k + 1) (s.drop (k + 1)) = txt [] 1 (s.drop 1)) := by unfold Hid; rw [← HT.out, HD.out, txt_plain _ _ _ _ c]
        go_wp2_with (at_builtin; refine wpList_append_lits _ rfl _ _ rfl w0.heap.size _ a rfl HW.out [y] 1 _ rfl rfl ?cs ?c1 ?c2 ?c3 ?_)
        case cs => rfl
        case c1 => simp; omega
        case c2 => simp; omega
        case c3 => omega
        intro v1 w1 ho1 hb1
        have HB1 : Hid (Below w0.heap.size w0 w1) := HB.out.trans hb1
        have HW1 : Hid (OwnB w1 w0.heap.size v1 (a ++ [y])) := ho1
        have HO1 : Hid (∀ x ∈ a ++ [y], 0 ≤ x ∧ x ≤ 255) := by
          intro x hx
          rcases List.mem_append.1 hx with h | h
          · exact HO.out x h
          · simp at h; omega
        have hal1 : (a ++ [y]).length ≤ k + 1 := by simp; omega
        clear ho1 hb1 HW HB HT HD HO
        go_wp2
        exact ⟨⟨k + 1, a ++ [y], by omega, by omega, by go_num, HW1, HO1, hal1, HT2, HB1⟩, by simp [intOf]; omega⟩
    · have HE : Hid (txt [] 1 (s.drop 1) = ([], 0, 8)) := by
        unfold Hid
        rw [← HT.out, List.drop_eq_nil_iff.2 (by omega)]
        rfl
      go_wp2
      refine bodyPost_ret (results_part rfl _ _ rfl (cells_set3 _ _ _ x0 x1 x2)) rfl ?_
      rw [HE.out]
      exact ⟨rfl, (HF.out _ _ _ _ HB.out).out⟩
end Go.Proofs.Ytjnbjooagdgfpaa
