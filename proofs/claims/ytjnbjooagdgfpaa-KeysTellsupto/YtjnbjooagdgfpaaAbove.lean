/- keys.Above and the document's Above return, for any text, what the plain function 'aboveOf' says. -/
import Derived.Test.YtjnbjooagdgfpaaEnc
namespace Go.Proofs.Ytjnbjooagdgfpaa
open Go.RowKit
set_option linter.unusedVariables false

/-- How many of the first k octets are left without the 255s at the end. -/
def topK (l : List Int) : Nat → Nat
  | 0 => 0
  | k + 1 => if l.getD k 0 = 255 then topK l k else k + 1

def aboveOf (l : List Int) : List Int × Bool := if topK l l.length = 0 then ([], false) else (l.take (topK l l.length - 1) ++ [l.getD (topK l l.length - 1) 0 + 1], true)

/-- '[]byte(s)': a new block that holds the text's octets and may be written. -/
theorem bytes_made (w : World) (t : List Int) (ht : ∀ x ∈ t, 0 ≤ x ∧ x ≤ 255) :
    ∃ cap w1, (convert 9 52 (.string (strOfNums t))).run Try.prog w = .ok (.slice (some ⟨w.heap.size, 0, none⟩) t.length cap) w1 ∧ t.length ≤ cap ∧ Below w.heap.size w w1 ∧
      (∀ i, i < t.length → w1.cell? ⟨w.heap.size, i, none⟩ = some (.int .u8 (t.getD i 0))) ∧ (∀ i, i < t.length → w1.frozen? ⟨w.heap.size, i, none⟩ = false) := by
  have kb := run_bytes_of_string (P := Try.prog) w 9 52 5 (strOfNums t) Try.underlying9 Try.underlying52 Try.underlying5
  rw [str_size] at kb
  have hge := grownCap_ge w t.length 0 5
  generalize grownCap w t.length 0 5 = cap at *
  refine ⟨cap, _, kb, hge, up_al (up_dr (Below.refl _ _)) _, fun i hi => ?_, fun i hi => ?_⟩
  · have := World.cell?_alloc_mark w.drew (bytesRow (strOfNums t) cap) 5 ((bytesRow (strOfNums t) cap).size, (bytesRow (strOfNums t) cap).size + 1) i
    refine this.trans ?_
    have hsi : i < (strOfNums t).size := by rw [str_size]; exact hi
    refine (bytesRow_at (strOfNums t) cap i hsi).trans ?_
    have e := str_at t ht i hsi
    exact congrArg (fun z => some (Value.int .u8 z)) e
  · refine (World.frozen?_alloc_mark w.drew _ 5 _ _ i).trans ?_
    have : i < (bytesRow (strOfNums t) cap).size := by
      have e : (bytesRow (strOfNums t) cap).size = t.length + (cap - t.length) := by
        unfold bytesRow
        rw [Array.size_append, Array.size_map, Array.size_replicate, str_size t]
        have := str_size t
        have e2 : (strOfNums t).data.size = t.length := this
        rw [e2]
      omega
    simp
    omega

theorem getD_take (l : List Int) (i k : Nat) (h : i < k) : (l.take k).getD i 0 = l.getD i 0 := by
  simp [List.getD, h]

set_option maxHeartbeats 1000000 in
theorem above_any (l : List Int) (hl : ∀ x ∈ l, 0 ≤ x ∧ x ≤ 255) (hm : l.length ≤ 140737488355328) (w : World) :
    Calls Try.prog 14 #[.string (strOfNums l)] w fun e w' => e = .returned (.tuple #[.string (strOfNums (aboveOf l).1), .bool (aboveOf l).2]) ∧ Below w.heap.size w w' := by
  have hsz := str_size l
  go_enter Try.func14, Try.ntmps14
  go_wp2
  go_loopw [4] (fun i wr => ∃ k : Nat, k ≤ l.length ∧ i = .int .i64 k ∧ Hid (topK l k = topK l l.length) ∧ wr = w) (fun i _ => (intOf i).toNat)
  case atStart => exact ⟨l.length, Nat.le_refl _, rfl, rfl, rfl⟩
  case round =>
    obtain ⟨k, hk, rfl, HK, rfl⟩ := hrel
    cases k with
    | zero =>
      have HA : Hid (aboveOf l = ([], false)) := by unfold Hid aboveOf; rw [← HK.out]; rfl
      go_wp2
      go_ret2
      rw [HA.out]
      exact ⟨rfl, Below.refl _ _⟩
    | succ j =>
      have hj : j < (strOfNums l).size := by omega
      have hy := str_at l hl j hj
      have hyb : 0 ≤ l.getD j 0 ∧ l.getD j 0 ≤ 255 := hl _ (by simp [List.getD, (by omega : j < l.length)])
      have ej : ((j + 1 : Nat) : Int) - 1 = (j : Int) := by omega
      have HK2 : Hid (topK l (j + 1) = if l.getD j 0 = 255 then topK l j else j + 1) := rfl
      have HY : Hid (l.getD j 0 = l.getD j 0) := rfl
      generalize hyy : l.getD j 0 = y at *
      by_cases c : y = 255
      · have cb : (y == 255) = true := by simp [c]
        have HK3 : Hid (topK l j = topK l l.length) := by unfold Hid; rw [← HK.out, HK2.out, if_pos c]
        go_wp2
        exact ⟨⟨j, by omega, by go_num, HK3, trivial⟩, by simp [intOf]⟩
      · have cb : (y == 255) = false := by simp [c]
        have HK3 : Hid (topK l l.length = j + 1) := by unfold Hid; rw [← HK.out, HK2.out, if_neg c]
        have HA : Hid (aboveOf l = (l.take j ++ [y + 1], true)) := by
          unfold Hid aboveOf
          rw [HK3.out, if_neg (by omega), Nat.add_sub_cancel, hyy]
        have ec : (strOfNums l).extract 0 (j + 1) = strOfNums (l.take (j + 1)) := by rw [str_cut]; simp
        have htl : (l.take (j + 1)).length = j + 1 := by rw [List.length_take]; omega
        obtain ⟨cap, w1, kb, hcap, hb1, hc1, hf1⟩ := bytes_made wr (l.take (j + 1)) (fun x hx => hl x (List.mem_of_mem_take hx))
        rw [htl] at kb hcap hc1 hf1
        have hcj := hc1 j (by omega)
        rw [getD_take l j (j + 1) (by omega), hyy] at hcj
        have hfj := hf1 j (by omega)
        have hyr : y ≤ 254 := by omega
        have kc := run_convert_bytes_arg (P := Try.prog) (w1.setCell ⟨wr.heap.size, j, none⟩ (.int .u8 (y + 1))) 52 5 Try.underlying52 Try.underlying5 wr.heap.size 0 (j + 1) cap (l.take j ++ [y + 1]) (by rw [List.length_append, List.length_take]; simp; omega)
          (fun i hi => by
            rw [Nat.zero_add]
            by_cases e : i = j
            · subst e
              rw [World.cell?_setCell_same (h := hcj) ..]
              have : (l.take i).length = i := by rw [List.length_take]; omega
              simp [List.getD, this]
            · rw [World.cell?_setCell_other (a := ⟨wr.heap.size, j, none⟩) (b := ⟨wr.heap.size, i, none⟩) (h := by intro h; injection h; omega) .., hc1 i hi, getD_take l i (j + 1) hi]
              have : (l.take j).length = j := by rw [List.length_take]; omega
              simp only [List.getD]
              rw [List.getElem?_append_left (by omega), List.getElem?_take, if_pos (by omega)]) 9 Try.underlying9
        have HB : Hid (Below wr.heap.size wr (w1.setCell ⟨wr.heap.size, j, none⟩ (.int .u8 (y + 1)))) := Below.setCell hb1 (Nat.le_refl _) _
        clear hc1 hf1 hb1
        go_wp2
        go_ret2
        rw [HA.out]
        exact ⟨rfl, HB.out⟩

theorem run_convert_one (w0 w1 : World) (y : Int) (h : w1.cell? ⟨w0.heap.size, 0, none⟩ = some (.int .u8 y)) : (convert 52 9 (.slice (some ⟨w0.heap.size, 0, none⟩) 1 1)).run Try.prog w1 = .ok (.string (strOfNums [y])) w1 :=
  run_convert_bytes_arg (P := Try.prog) w1 52 5 Try.underlying52 Try.underlying5 w0.heap.size 0 1 1 [y] rfl (fun i hi => by
    obtain rfl : i = 0 := by omega
    exact h) 9 Try.underlying9

set_option maxHeartbeats 1000000 in
theorem refAbove_any (l : List Int) (hl : ∀ x ∈ l, 0 ≤ x ∧ x ≤ 255) (hm : l.length ≤ 140737488355328) (w : World) :
    Calls Try.prog 15 #[.string (strOfNums l)] w fun e w' => e = .returned (.tuple #[.string (strOfNums (aboveOf l).1), .bool (aboveOf l).2]) ∧ Below w.heap.size w w' := by
  have hsz := str_size l
  go_enter Try.func15, Try.ntmps15
  go_wp2
  go_loopw [4] (fun i wr => ∃ k : Nat, k ≤ l.length ∧ i = .int .i64 k ∧ Hid (topK l k = topK l l.length) ∧ wr = w) (fun i _ => (intOf i).toNat)
  case atStart => exact ⟨l.length, Nat.le_refl _, rfl, rfl, rfl⟩
  case round =>
    obtain ⟨k, hk, rfl, HK, rfl⟩ := hrel
    cases k with
    | zero =>
      have HA : Hid (aboveOf l = ([], false)) := by unfold Hid aboveOf; rw [← HK.out]; rfl
      go_wp2
      go_ret2
      rw [HA.out]
      exact ⟨rfl, Below.refl _ _⟩
    | succ j =>
      have hj : j < (strOfNums l).size := by omega
      have hy := str_at l hl j hj
      have hyb : 0 ≤ l.getD j 0 ∧ l.getD j 0 ≤ 255 := hl _ (by simp [List.getD, (by omega : j < l.length)])
      have ej : ((j + 1 : Nat) : Int) - 1 = (j : Int) := by omega
      have HK2 : Hid (topK l (j + 1) = if l.getD j 0 = 255 then topK l j else j + 1) := rfl
      generalize hyy : l.getD j 0 = y at *
      by_cases c : y = 255
      · have cb : (y == 255) = true := by simp [c]
        have HK3 : Hid (topK l j = topK l l.length) := by unfold Hid; rw [← HK.out, HK2.out, if_pos c]
        go_wp2
        exact ⟨⟨j, by omega, by go_num, HK3, trivial⟩, by simp [intOf]⟩
      · have cb : (y == 255) = false := by simp [c]
        have HK3 : Hid (topK l l.length = j + 1) := by unfold Hid; rw [← HK.out, HK2.out, if_neg c]
        have HA : Hid (aboveOf l = (l.take j ++ [y + 1], true)) := by
          unfold Hid aboveOf
          rw [HK3.out, if_neg (by omega), Nat.add_sub_cancel, hyy]
        have ec : (strOfNums l).extract 0 j = strOfNums (l.take j) := by rw [str_cut]; simp
        have hs1 : (strOfNums (l.take j)).size = j := by rw [str_size, List.length_take]; omega
        have hs2 : (strOfNums [y + 1]).size = 1 := str_size _
        have ecat : strOfNums (l.take j) ++ strOfNums [y + 1] = strOfNums (l.take j ++ [y + 1]) := str_cat _ _
        have hyr : y ≤ 254 := by omega
        have kc1 := run_convert_one wr (wr.alloc (.cells #[.int .u8 (y + 1)] 5)).drew (y + 1) (World.cell?_alloc_new wr ..)
        go_wp2_with fail
        go_region
        all_goals
          go_wp2
          go_ret2
          rw [HA.out]
          exact ⟨rfl, up_dr (up_al (Below.refl _ _) _)⟩
end Go.Proofs.Ytjnbjooagdgfpaa
