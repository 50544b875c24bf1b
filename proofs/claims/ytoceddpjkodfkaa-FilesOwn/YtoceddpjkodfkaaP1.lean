/- The program's leaves of files: nameMay, used, and the search for a name or a number in a list that is in order. -/
import Derived.Test.YtoceddpjkodfkaaGBase
namespace Go.Proofs.Ytoceddpjkodfkaa
open Go.RowKit
set_option linter.unusedVariables false

set_option maxHeartbeats 400000 in
theorem nameMay_any (s : List Int) (hs : OctL s) (hl : s.length ≤ 140737488355328) (w : World) :
    Calls Try.prog 70 #[.string (strOfNums s)] w fun e w' => e = .returned (.bool (mayOf s)) ∧ Below w.heap.size w w' := by
  have hsz : (strOfNums s).size = s.length := by simp [strOfNums, ByteArray.size]
  go_enter Try.func70, Try.ntmps70
  by_cases c1 : s.length < 1
  · have HM : Hid (mayOf s = false) := by unfold Hid mayOf; simp; omega
    have c1' : (s.length : Int) < 1 := by omega
    go_wp2
    go_ret
    rw [HM.out]
    exact ⟨rfl, Below.refl _ _⟩
  · have c1' : ¬ (s.length : Int) < 1 := by omega
    by_cases c2 : 32 < s.length
    · have HM : Hid (mayOf s = false) := by unfold Hid mayOf; simp; omega
      have c2' : (32 : Int) < (s.length : Int) := by omega
      go_wp2
      go_ret
      rw [HM.out]
      exact ⟨rfl, Below.refl _ _⟩
    · have c2' : ¬ (32 : Int) < (s.length : Int) := by omega
      obtain ⟨cap, w1, kb, hcap, hb1, hc1, hf1⟩ := bytes_made w s hs
      have HC : Hid (∀ i, i < s.length → w1.cell? ⟨w.heap.size, i, none⟩ = some (.int .u8 (s.getD i 0))) := hc1
      have HB : Hid (Below w.heap.size w w1) := hb1
      clear hc1 hb1 hf1
      go_wp2
      go_loopw [16] (fun i wr => ∃ k : Nat, k ≤ s.length ∧ i = .int .i64 k ∧ Hid (∀ x ∈ s.take k, 33 ≤ x ∧ x ≤ 126) ∧ wr = w1) (fun i _ => s.length - (intOf i).toNat)
      case atStart => exact ⟨0, Nat.zero_le _, rfl, (fun x hx => by simp at hx), rfl⟩
      case round =>
        obtain ⟨k, hk, rfl, HK, rfl⟩ := hrel
        by_cases hlt : k < s.length
        · have hlt' : (k : Int) < (s.length : Int) := by omega
          have hck := HC.out k hlt
          have hyb : 0 ≤ s.getD k 0 ∧ s.getD k 0 ≤ 255 := hs _ (by simp [List.getD, hlt])
          have hmem : s.getD k 0 ∈ s := by simp [List.getD, hlt]
          have HT : Hid (s.take (k + 1) = s.take k ++ [s.getD k 0]) := take_snoc s k 0 hlt
          have HM : Hid (¬ (33 ≤ s.getD k 0 ∧ s.getD k 0 ≤ 126) → mayOf s = false) := by
            intro hn
            unfold mayOf
            rw [Bool.and_eq_false_iff]
            refine .inr ?_
            rw [List.all_eq_false]
            refine ⟨s.getD k 0, hmem, fun hc => hn ?_⟩
            rw [Bool.and_eq_true, decide_eq_true_eq, decide_eq_true_eq] at hc
            exact hc
          clear hmem
          generalize s.getD k 0 = y at *
          by_cases d1 : y < 33
          · have HM2 : Hid (mayOf s = false) := HM.out (by omega)
            go_wp2
            go_ret
            rw [HM2.out]
            exact ⟨rfl, HB.out⟩
          · by_cases d2 : 126 < y
            · have HM2 : Hid (mayOf s = false) := HM.out (by omega)
              go_wp2
              go_ret
              rw [HM2.out]
              exact ⟨rfl, HB.out⟩
            · have HK2 : Hid (∀ x ∈ s.take (k + 1), 33 ≤ x ∧ x ≤ 126) := by
                rw [HT.out]
                intro x hx
                rcases List.mem_append.1 hx with h | h
                · exact HK.out x h
                · simp at h
                  subst h
                  omega
              go_wp2
              exact ⟨⟨k + 1, by omega, by go_num, HK2, trivial⟩, by simp [intOf]; omega⟩
        · have hlt' : ¬ (k : Int) < (s.length : Int) := by omega
          obtain rfl : k = s.length := by omega
          have HM : Hid (mayOf s = true) := by
            unfold Hid mayOf
            have h := HK.out
            rw [List.take_length] at h
            simp only [Bool.and_eq_true, decide_eq_true_eq, List.all_eq_true]
            exact ⟨⟨by omega, by omega⟩, h⟩
          go_wp2
          go_ret
          rw [HM.out]
          exact ⟨rfl, HB.out⟩

set_option maxHeartbeats 400000 in
theorem used_any (l : List (Int × List Int × Int)) (vf : Value) (w : World) (hf : FilesW w vf l) (hn : l.length ≤ 256) :
    Calls Try.prog 69 #[vf] w fun e w' => e = .returned (.int .i64 (usedOf l)) ∧ Below w.heap.size w w' := by
  have HV : Hid (FilesW w vf l) := hf
  obtain ⟨a, cap, rfl, hcap, hmax⟩ := hf.len
  have hd := hf.data
  clear hf
  unfold maxLen at hmax
  have HU : Hid (∀ k, usedOf (l.take k) ≤ 256 * 140737488355328) := by
    intro k
    have := used_le (l.take k) (fun f hf => hd f (List.mem_of_mem_take hf))
    have : ((l.take k).length : Int) ≤ 256 := by rw [List.length_take]; omega
    omega
  clear hd
  go_enter Try.func69, Try.ntmps69
  go_wp2
  go_loopw [3, 8] (fun n i wr => ∃ k : Nat, k ≤ l.length ∧ i = .int .i64 k ∧ n = .int .i64 (usedOf (l.take k)) ∧ Hid (Below w.heap.size w wr)) (fun _ i _ => l.length - (intOf i).toNat)
  case atStart => exact ⟨0, Nat.zero_le _, rfl, rfl, Below.refl _ _⟩
  case round =>
    obtain ⟨k, hk, rfl, rfl, up⟩ := hrel
    by_cases hlt : k < l.length
    · have hlt' : (k : Int) < (l.length : Int) := by omega
      obtain ⟨b, off, cap', u, e, _, _, c0, c1, c2, ho, hdl, _⟩ := (HV.out.up up.out).at k hlt
      simp at e
      obtain ⟨rfl, rfl⟩ := e
      have HT : Hid (usedOf (l.take (k + 1)) = usedOf (l.take k) + ((l.getD k (0, [], 0)).2.1.length : Int)) := used_take l k hlt
      have hp := used_pos (l.take k)
      have hle := HU.out k
      generalize l.getD k (0, [], 0) = y at *
      obtain ⟨yi, yd, ys⟩ := y
      simp only at c0 c1 c2 ho hdl HT
      obtain ⟨au, capu, rfl, _⟩ := ho.slice
      generalize usedOf (l.take k) = n at *
      go_wp2
      refine ⟨⟨k + 1, by omega, by go_num, by rw [HT.out], ?_⟩, by simp [intOf]; omega⟩
      have hsz := up.out.size
      repeat (first | exact up.out | refine up_al ?_ _ | refine Below.setCell ?_ (by simp; omega) _)
    · have hlt' : ¬ (k : Int) < (l.length : Int) := by omega
      obtain rfl : k = l.length := by omega
      rw [List.take_length]
      go_wp2
      go_ret
      exact ⟨rfl, up.out⟩
end Go.Proofs.Ytoceddpjkodfkaa
