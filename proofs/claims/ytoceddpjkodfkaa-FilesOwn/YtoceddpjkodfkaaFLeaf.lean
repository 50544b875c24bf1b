/- The document's leaves of files: may, file, stands, used, find. -/
import Derived.Test.YtoceddpjkodfkaaFBase
namespace Go.Proofs.Ytoceddpjkodfkaa
open Go.RowKit
set_option linter.unusedVariables false

set_option maxHeartbeats 400000 in
theorem refMay_any (s : List Int) (hs : OctL s) (hl : s.length ≤ 140737488355328) (w : World) :
    Calls Try.prog 36 #[.string (strOfNums s)] w fun e w' => e = .returned (.bool (mayOf s)) ∧ w' = w := by
  have hsz : (strOfNums s).size = s.length := by simp [strOfNums, ByteArray.size]
  go_enter Try.func36, Try.ntmps36
  by_cases c1 : s.length < 1
  · have HM : Hid (mayOf s = false) := by unfold Hid mayOf; simp; omega
    have c1' : (s.length : Int) < 1 := by omega
    go_wp2
    go_ret
    rw [HM.out]
    exact ⟨rfl, rfl⟩
  · have c1' : ¬ (s.length : Int) < 1 := by omega
    by_cases c2 : 32 < s.length
    · have HM : Hid (mayOf s = false) := by unfold Hid mayOf; simp; omega
      have c2' : (32 : Int) < (s.length : Int) := by omega
      go_wp2
      go_ret
      rw [HM.out]
      exact ⟨rfl, rfl⟩
    · have c2' : ¬ (32 : Int) < (s.length : Int) := by omega
      go_wp2
      go_loopw [3] (fun i wr => ∃ k : Nat, k ≤ s.length ∧ i = .int .i64 k ∧ Hid (∀ x ∈ s.take k, 33 ≤ x ∧ x ≤ 126) ∧ wr = w) (fun i _ => s.length - (intOf i).toNat)
      case atStart => exact ⟨0, Nat.zero_le _, rfl, (fun x hx => by simp at hx), rfl⟩
      case round =>
        obtain ⟨k, hk, rfl, HK, rfl⟩ := hrel
        by_cases hlt : k < s.length
        · have hlt' : (k : Int) < (s.length : Int) := by omega
          have hj : k < (strOfNums s).size := by omega
          have hy := str_at s hs k hj
          have hyb : 0 ≤ s.getD k 0 ∧ s.getD k 0 ≤ 255 := hs _ (by simp [List.getD, hlt])
          have hmem : s.getD k 0 ∈ s := by simp [List.getD, hlt]
          have HT : Hid (s.take (k + 1) = s.take k ++ [s.getD k 0]) := take_snoc s k 0 hlt
          have HM : Hid (¬ (33 ≤ s.getD k 0 ∧ s.getD k 0 ≤ 126) → mayOf s = false) := by
            intro hn
            unfold mayOf
            rw [Bool.and_eq_false_iff]
            refine .inr ?_
            rw [List.all_eq_false]
            refine ⟨s.getD k 0, hmem, fun hc => hn ?_⟩
            rw [Bool.and_eq_true, decide_eq_true_eq, decide_eq_true_eq] at hc
            exact hc
          clear hmem
          generalize s.getD k 0 = y at *
          by_cases d1 : y < 33
          · have HM2 : Hid (mayOf s = false) := HM.out (by omega)
            go_wp2
            go_ret
            rw [HM2.out]
            exact ⟨rfl, rfl⟩
          · by_cases d2 : 126 < y
            · have HM2 : Hid (mayOf s = false) := HM.out (by omega)
              go_wp2
              go_ret
              rw [HM2.out]
              exact ⟨rfl, rfl⟩
            · have HK2 : Hid (∀ x ∈ s.take (k + 1), 33 ≤ x ∧ x ≤ 126) := by
                rw [HT.out]
                intro x hx
                rcases List.mem_append.1 hx with h | h
                · exact HK.out x h
                · simp at h
                  subst h
                  omega
              go_wp2
              exact ⟨⟨k + 1, by omega, by go_num, HK2, trivial⟩, by simp [intOf]; omega⟩
        · have hlt' : ¬ (k : Int) < (s.length : Int) := by omega
          obtain rfl : k = s.length := by omega
          have HM : Hid (mayOf s = true) := by
            unfold Hid mayOf
            have h := HK.out
            rw [List.take_length] at h
            simp only [Bool.and_eq_true, decide_eq_true_eq, List.all_eq_true]
            exact ⟨⟨by omega, by omega⟩, h⟩
          go_wp2
          go_ret
          rw [HM.out]
          exact ⟨rfl, rfl⟩

set_option maxHeartbeats 400000 in
theorem refStands_any (l : List (List Int × Int)) (id : Int) (v : Value) (w : World) (hv : NamesW w v l) :
    Calls Try.prog 54 #[v, .int .i64 id] w fun e w' => e = .returned (.bool (standsOf l id)) ∧ w' = w := by
  have HV : Hid (NamesW w v l) := hv
  obtain ⟨a, cap, rfl, hcap, hmax⟩ := hv.len
  clear hv
  unfold maxLen at hmax
  go_enter Try.func54, Try.ntmps54
  go_wp2
  go_loopw [5] (fun i wr => ∃ k : Nat, k ≤ l.length ∧ i = .int .i64 k ∧ Hid (∀ p ∈ l.take k, (p.2 == id) = false) ∧ wr = w) (fun i _ => l.length - (intOf i).toNat)
  case atStart => exact ⟨0, Nat.zero_le _, rfl, (fun x hx => by simp at hx), rfl⟩
  case round =>
    obtain ⟨k, hk, rfl, HK, rfl⟩ := hrel
    by_cases hlt : k < l.length
    · have hlt' : (k : Int) < (l.length : Int) := by omega
      obtain ⟨b, off, cap', e, _, _, c0, c1, _, _, hi⟩ := HV.out.at k hlt
      simp at e
      obtain ⟨rfl, rfl⟩ := e
      have HT : Hid (l.take (k + 1) = l.take k ++ [l.getD k ([], 0)]) := take_snoc l k _ hlt
      have hmem : Hid (l.getD k ([], 0) ∈ l) := by simp [Hid, List.getD, hlt]
      clear c0
      generalize l.getD k ([], 0) = y at *
      obtain ⟨ys, yi⟩ := y
      simp only at c1 hi
      by_cases d : yi = id
      · have d' : (yi == id) = true := by simp [d]
        have HM : Hid (standsOf l id = true) := by
          unfold Hid standsOf
          rw [List.any_eq_true]
          exact ⟨_, hmem.out, d'⟩
        go_wp2
        go_ret
        rw [HM.out]
        exact ⟨rfl, rfl⟩
      · have d' : (yi == id) = false := by simp [d]
        have HK2 : Hid (∀ p ∈ l.take (k + 1), (p.2 == id) = false) := by
          rw [HT.out]
          intro p hp
          rcases List.mem_append.1 hp with h | h
          · exact HK.out p h
          · simp at h
            subst h
            exact d'
        go_wp2
        exact ⟨⟨k + 1, by omega, by go_num, HK2, trivial⟩, by simp [intOf]; omega⟩
    · have hlt' : ¬ (k : Int) < (l.length : Int) := by omega
      obtain rfl : k = l.length := by omega
      have HM : Hid (standsOf l id = false) := by
        unfold Hid standsOf
        have h := HK.out
        rw [List.take_length] at h
        rw [List.any_eq_false]
        intro p hp
        rw [h p hp]
        decide
      go_wp2
      go_ret
      rw [HM.out]
      exact ⟨rfl, rfl⟩

set_option maxHeartbeats 400000 in
theorem refFind_any (l : List (List Int × Int)) (s : List Int) (hs : OctL s) (v : Value) (w : World) (hv : NamesW w v l) :
    Calls Try.prog 35 #[v, .string (strOfNums s)] w fun e w' => e = .returned (.int .i64 (findOf l s)) ∧ w' = w := by
  have HV : Hid (NamesW w v l) := hv
  obtain ⟨a, cap, rfl, hcap, hmax⟩ := hv.len
  clear hv
  unfold maxLen at hmax
  go_enter Try.func35, Try.ntmps35
  go_wp2
  go_loopw [5] (fun i wr => ∃ k : Nat, k ≤ l.length ∧ i = .int .i64 k ∧ Hid (∀ p ∈ l.take k, decide (p.1 = s) = false) ∧ wr = w) (fun i _ => l.length - (intOf i).toNat)
  case atStart => exact ⟨0, Nat.zero_le _, rfl, (fun x hx => by simp at hx), rfl⟩
  case round =>
    obtain ⟨k, hk, rfl, HK, rfl⟩ := hrel
    by_cases hlt : k < l.length
    · have hlt' : (k : Int) < (l.length : Int) := by omega
      obtain ⟨b, off, cap', e, _, _, c0, c1, ho, _, hi⟩ := HV.out.at k hlt
      simp at e
      obtain ⟨rfl, rfl⟩ := e
      have HT : Hid (l.take (k + 1) = l.take k ++ [l.getD k ([], 0)]) := take_snoc l k _ hlt
      have hget : Hid (l[k]? = some (l.getD k ([], 0))) := by simp [Hid, List.getD, hlt]
      clear c1
      generalize l.getD k ([], 0) = y at *
      obtain ⟨ys, yi⟩ := y
      simp only at c0 ho
      have heq := str_eq ys s ho hs
      clear ho
      by_cases d : ys = s
      · rw [decide_eq_true d] at heq
        have HM : Hid (findOf l s = (k : Int)) := placeOf_at _ l k (ys, yi) hget.out (decide_eq_true d) HK.out
        clear d
        go_wp2
        go_ret
        rw [HM.out]
        exact ⟨rfl, rfl⟩
      · rw [decide_eq_false d] at heq
        have HK2 : Hid (∀ p ∈ l.take (k + 1), decide (p.1 = s) = false) := by
          rw [HT.out]
          intro p hp
          rcases List.mem_append.1 hp with h | h
          · exact HK.out p h
          · simp at h
            subst h
            exact decide_eq_false d
        clear d
        go_wp2
        exact ⟨⟨k + 1, by omega, by go_num, HK2, trivial⟩, by simp [intOf]; omega⟩
    · have hlt' : ¬ (k : Int) < (l.length : Int) := by omega
      obtain rfl : k = l.length := by omega
      have HM : Hid (findOf l s = -1) := by
        have h := HK.out
        rw [List.take_length] at h
        exact placeOf_none _ l h
      go_wp2
      go_ret
      rw [HM.out]
      exact ⟨rfl, rfl⟩

set_option maxHeartbeats 400000 in
theorem refFile_any (l : List (Int × List Int × Int)) (id : Int) (x0 vf vn vs x4 : Value) (w : World) (hf : FilesW w vf l) :
    Calls Try.prog 40 #[.agg #[x0, vf, vn, vs, x4], .int .i64 id] w fun e w' => e = .returned (.int .i64 (fileOf l id)) ∧ w' = w.alloc (.cells #[x0, vf, vn, vs, x4] 25) := by
  have HV : Hid (FilesW w vf l) := hf
  obtain ⟨a, cap, rfl, hcap, hmax⟩ := hf.len
  clear hf
  unfold maxLen at hmax
  have HB : Hid (∀ o, Below w.heap.size w (w.alloc o)) := fun o => up_al (Below.refl _ _) o
  go_enter Try.func40, Try.ntmps40
  go_wp2
  go_loopw [5] (fun i wr => ∃ k : Nat, k ≤ l.length ∧ i = .int .i64 k ∧ Hid (∀ p ∈ l.take k, (p.1 == id) = false) ∧ wr = w.alloc (.cells #[x0, .slice a l.length cap, vn, vs, x4] 25)) (fun i _ => l.length - (intOf i).toNat)
  case atStart => exact ⟨0, Nat.zero_le _, rfl, (fun x hx => by simp at hx), rfl⟩
  case round =>
    obtain ⟨k, hk, rfl, HK, rfl⟩ := hrel
    by_cases hlt : k < l.length
    · have hlt' : (k : Int) < (l.length : Int) := by omega
      obtain ⟨b, off, cap', u, e, _, _, c0, c1, c2, _⟩ := (HV.out.up (HB.out (.cells #[x0, .slice a l.length cap, vn, vs, x4] 25))).at k hlt
      simp at e
      obtain ⟨rfl, rfl⟩ := e
      have HT : Hid (l.take (k + 1) = l.take k ++ [l.getD k (0, [], 0)]) := take_snoc l k _ hlt
      have hget : Hid (l[k]? = some (l.getD k (0, [], 0))) := by simp [Hid, List.getD, hlt]
      clear c1 c2
      generalize l.getD k (0, [], 0) = y at *
      obtain ⟨yi, yd, ys⟩ := y
      simp only at c0
      by_cases d : yi = id
      · have d' : (yi == id) = true := by simp [d]
        have HM : Hid (fileOf l id = (k : Int)) := placeOf_at _ l k (yi, yd, ys) hget.out d' HK.out
        go_wp2
        go_ret
        rw [HM.out]
        exact ⟨rfl, rfl⟩
      · have d' : (yi == id) = false := by simp [d]
        have HK2 : Hid (∀ p ∈ l.take (k + 1), (p.1 == id) = false) := by
          rw [HT.out]
          intro p hp
          rcases List.mem_append.1 hp with h | h
          · exact HK.out p h
          · simp at h
            subst h
            exact d'
        go_wp2
        exact ⟨⟨k + 1, by omega, by go_num, HK2, trivial⟩, by simp [intOf]; omega⟩
    · have hlt' : ¬ (k : Int) < (l.length : Int) := by omega
      obtain rfl : k = l.length := by omega
      have HM : Hid (fileOf l id = -1) := by
        have h := HK.out
        rw [List.take_length] at h
        exact placeOf_none _ l h
      go_wp2
      go_ret
      rw [HM.out]
      exact ⟨rfl, rfl⟩

theorem used_take (l : List (Int × List Int × Int)) (k : Nat) (h : k < l.length) : usedOf (l.take (k + 1)) = usedOf (l.take k) + ((l.getD k (0, [], 0)).2.1.length : Int) := by
  rw [take_snoc l k (0, [], 0) h]
  simp [usedOf]

theorem used_pos (l : List (Int × List Int × Int)) : 0 ≤ usedOf l := by
  induction l with
  | nil => simp [usedOf]
  | cons x l ih => simp only [usedOf, List.map_cons, List.sum_cons] at ih ⊢; omega

theorem used_le (l : List (Int × List Int × Int)) (h : ∀ f ∈ l, f.2.1.length ≤ 140737488355328) : usedOf l ≤ (l.length : Int) * 140737488355328 := by
  induction l with
  | nil => simp [usedOf]
  | cons x l ih =>
    have h1 := ih (fun f hf => h f (by simp [hf]))
    have h2 := h x (by simp)
    simp only [usedOf, List.map_cons, List.sum_cons, List.length_cons] at h1 ⊢
    push_cast
    omega

theorem FilesW.data {w : World} {v : Value} {l : List (Int × List Int × Int)} (h : FilesW w v l) : ∀ f ∈ l, f.2.1.length ≤ 140737488355328 := by
  obtain ⟨m, rfl, _, h3⟩ := h
  intro f hf
  obtain ⟨y, hy, rfl⟩ := List.mem_map.1 hf
  exact (h3 y hy).2.1

set_option maxHeartbeats 400000 in
theorem refUsed_any (l : List (Int × List Int × Int)) (x0 vf vn vs x4 : Value) (w : World) (hf : FilesW w vf l) (hn : l.length ≤ 256) :
    Calls Try.prog 41 #[.agg #[x0, vf, vn, vs, x4]] w fun e w' => e = .returned (.int .i64 (usedOf l)) ∧ w' = w.alloc (.cells #[x0, vf, vn, vs, x4] 25) := by
  have HV : Hid (FilesW w vf l) := hf
  obtain ⟨a, cap, rfl, hcap, hmax⟩ := hf.len
  have hd := hf.data
  clear hf
  unfold maxLen at hmax
  have HU : Hid (∀ k, usedOf (l.take k) ≤ 256 * 140737488355328) := by
    intro k
    have := used_le (l.take k) (fun f hf => hd f (List.mem_of_mem_take hf))
    have : ((l.take k).length : Int) ≤ 256 := by rw [List.length_take]; omega
    omega
  have HB : Hid (∀ o, Below w.heap.size w (w.alloc o)) := fun o => up_al (Below.refl _ _) o
  clear hd
  go_enter Try.func41, Try.ntmps41
  go_wp2
  go_loopw [3, 4] (fun n i wr => ∃ k : Nat, k ≤ l.length ∧ i = .int .i64 k ∧ n = .int .i64 (usedOf (l.take k)) ∧ wr = w.alloc (.cells #[x0, .slice a l.length cap, vn, vs, x4] 25)) (fun _ i _ => l.length - (intOf i).toNat)
  case atStart => exact ⟨0, Nat.zero_le _, rfl, rfl, rfl⟩
  case round =>
    obtain ⟨k, hk, rfl, rfl, rfl⟩ := hrel
    by_cases hlt : k < l.length
    · have hlt' : (k : Int) < (l.length : Int) := by omega
      obtain ⟨b, off, cap', u, e, _, _, c0, c1, c2, ho, hdl, _⟩ := (HV.out.up (HB.out (.cells #[x0, .slice a l.length cap, vn, vs, x4] 25))).at k hlt
      simp at e
      obtain ⟨rfl, rfl⟩ := e
      have HT : Hid (usedOf (l.take (k + 1)) = usedOf (l.take k) + ((l.getD k (0, [], 0)).2.1.length : Int)) := used_take l k hlt
      have hp := used_pos (l.take k)
      have hle := HU.out k
      clear c0 c2
      generalize l.getD k (0, [], 0) = y at *
      obtain ⟨yi, yd, ys⟩ := y
      simp only at c1 ho hdl HT
      obtain ⟨au, capu, rfl, _⟩ := ho.slice
      generalize usedOf (l.take k) = n at *
      go_wp2
      exact ⟨⟨k + 1, by omega, by go_num, by rw [HT.out], trivial⟩, by simp [intOf]; omega⟩
    · have hlt' : ¬ (k : Int) < (l.length : Int) := by omega
      obtain rfl : k = l.length := by omega
      rw [List.take_length]
      go_wp2
      go_ret
      exact ⟨rfl, rfl⟩
end Go.Proofs.Ytoceddpjkodfkaa
