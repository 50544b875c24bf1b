/- The document's list and Print. -/
import Derived.Test.YtbnghhmmanleaaaDoorNDay
namespace Go.Proofs.YtbnghhmmanleaaaDoor
open Go.RowKit
set_option linter.unusedVariables false
set_option linter.unusedSimpArgs false

theorem one_oct (x : Int) (h : 0 ≤ x ∧ x ≤ 255) (w : World) (B : Nat) (hB : B = w.heap.size) : (convert 91 9 (.slice (some ⟨B, 0, none⟩) 1 1)).run Tryd.prog (w.alloc (.cells #[.int .u8 x] 5)) = .ok (.string (strOfNums [x])) (w.alloc (.cells #[.int .u8 x] 5)) := by
  subst hB
  exact run_convert_octs [x] _ _ (Octs.made w [x] (by intro y hy; cases List.mem_singleton.1 hy; exact h) (by unfold maxLen; simp))
/-- A number of one or two digits. -/
def twoD (k : Nat) : List Int := if 10 ≤ k then [48 + (k : Int) / 10, 48 + (k : Int) % 10] else [48 + (k : Int) % 10]
/-- A set's numbers below k. -/
def listF (s : Nat) : Nat → List Int
  | 0 => []
  | k + 1 => if s.testBit k then (if listF s k = [] then twoD k else listF s k ++ (44 :: twoD k)) else listF s k
def listL (s w : Nat) (star : Bool) : List Int := if star && s == w then [42] else listF s 64
theorem listF_next (s k : Nat) : listF s (k + 1) = if s.testBit k then (if listF s k = [] then twoD k else listF s k ++ (44 :: twoD k)) else listF s k := rfl
theorem twoD_len (k : Nat) : (twoD k).length ≤ 2 := by unfold twoD; split <;> simp
theorem listF_len (s : Nat) : ∀ k, (listF s k).length ≤ 3 * k
  | 0 => by simp [listF]
  | k + 1 => by
    have h := listF_len s k
    have t := twoD_len k
    rw [listF_next]
    split
    · split
      · omega
      · rw [List.length_append, List.length_cons]; omega
    · omega
theorem listF_oct (s : Nat) : ∀ k, k ≤ 64 → ∀ x ∈ listF s k, 0 ≤ x ∧ x ≤ 255
  | 0, _, x, hx => by simp [listF] at hx
  | k + 1, hk, x, hx => by
    have h := listF_oct s k (by omega)
    have t : ∀ x ∈ twoD k, 0 ≤ x ∧ x ≤ 255 := by
      intro x hx
      unfold twoD at hx
      split at hx <;> simp at hx <;> omega
    rw [listF_next] at hx
    split at hx
    · split at hx
      · exact t x hx
      · rcases List.mem_append.1 hx with hx | hx
        · exact h x hx
        · rcases List.mem_cons.1 hx with rfl | hx
          · omega
          · exact t x hx
    · exact h x hx
set_option maxHeartbeats 2000000 in
set_option maxRecDepth 20000 in
theorem listR_any (s wh : Nat) (star : Bool) (hs : s < 18446744073709551616) (w : World) :
    Calls Tryd.prog 29 #[.int .u64 (s : Int), .int .u64 (wh : Int), .bool star] w fun e w' => e = .returned (.string (strOfNums (listL s wh star))) ∧ Below w.heap.size w w' := by
  have HH : Hid (∀ k : Nat, k < 64 → ∀ w', Calls Tryd.prog 35 #[.int .u64 (s : Int), .int .i64 (k : Int)] w' fun e w'' => e = .returned (.bool (s.testBit k)) ∧ w'' = w') := fun k hk w' => has_any s k hs hk w'
  have bq := beq_nat s wh
  obtain ⟨z, hz⟩ : ∃ z, z = (s == wh) := ⟨_, rfl⟩
  rw [← hz] at bq
  have HL : Hid (listL s wh star = if star && z then [42] else listF s 64) := by rw [hz]; rfl
  have O1 := one_oct
  have HO1 := hid O1
  clear hz O1
  by_cases c : (star && z) = true
  · have R : Hid (listL s wh star = [42]) := HL.out.trans (if_pos c)
    rw [Bool.and_eq_true] at c
    obtain ⟨rfl, rfl⟩ := c
    go_enter Tryd.func29, Tryd.ntmps29
    go_wp2_with fail
    go_ret
    exact ⟨by rw [R.out]; rfl, Below.refl _ _⟩
  · have R : Hid (listL s wh star = listF s 64) := HL.out.trans (if_neg c)
    have t14 : (star = true → z = false) := by
      intro h
      subst h
      simpa using c
    clear c HL
    have main : ∀ (hst : star = false ∨ (star = true ∧ z = false)), Calls Tryd.prog 29 #[.int .u64 (s : Int), .int .u64 (wh : Int), .bool star] w fun e w' => e = .returned (.string (strOfNums (listL s wh star))) ∧ Below w.heap.size w w' := by
      intro hst
      rcases hst with rfl | ⟨rfl, rfl⟩
      all_goals
        go_enter Tryd.func29, Tryd.ntmps29
        go_wp2_with fail
        go_loopw [7, 8] (fun t q wr => ∃ k : Nat, k ≤ 64 ∧ q = .int .i64 (k : Int) ∧ t = .string (strOfNums (listF s k)) ∧ Hid (Below w.heap.size w wr)) (fun _ q _ => (64 - intOf q).toNat)
        case atStart => exact ⟨0, by omega, rfl, rfl, Below.refl _ _⟩
        case round =>
          obtain ⟨k, hk, rfl, rfl, HB⟩ := hrel
          by_cases ck : k < 64
          · have ck' : (k : Int) < 64 := by omega
            have H1 := hid (HH.out k ck)
            have NX := hid (listF_next s k)
            have len := listF_len s k
            have sz := strOfNums_size (listF s k)
            obtain ⟨v, hv⟩ : ∃ v, v = decide (listF s k = []) := ⟨_, rfl⟩
            have ze : ((strOfNums (listF s k)).toList == []) = v := (empty_eq _ (listF_oct s k (by omega))).trans hv.symm
            have HV := hid hv
            clear hv
            generalize hF : listF s k = F at *
            clear hF
            cases hb : s.testBit k
            · rw [hb] at H1 NX
              have E : Hid (listF s (k + 1) = F) := NX.out
              go_wp2_with fail
              refine (H1.out _).mono ?_
              rintro e w5 ⟨rfl, rfl⟩
              go_wp2_with fail
              exact ⟨⟨k + 1, by omega, by go_num, by rw [E.out], HB⟩, by simp [intOf]; omega⟩
            · rw [hb] at H1 NX
              have c1 := HO1.out (48 + (k : Int) % 10) (by omega)
              have c2 := HO1.out (48 + (k : Int) / 10) (by omega)
              have sA : (strOfNums [48 + (k : Int) % 10]).size = 1 := by rw [strOfNums_size]; rfl
              have sB : (strOfNums [48 + (k : Int) / 10]).size = 1 := by rw [strOfNums_size]; rfl
              have e44 : ({ data := #[44] } : ByteArray) = strOfNums [44] := rfl
              cases v
              · have hne : ¬ F = [] := of_decide_eq_false HV.out.symm
                by_cases c10 : 10 ≤ k
                · have c10' : (10 : Int) ≤ (k : Int) := by omega
                  have d1 := c2 wr wr.heap.size rfl
                  have d2 := fun o => c1 (wr.alloc o) (wr.heap.size + 1) (by simp)
                  have E : Hid (strOfNums (listF s (k + 1)) = strOfNums F ++ { data := #[44] } ++ strOfNums [48 + (k : Int) / 10] ++ strOfNums [48 + (k : Int) % 10]) := by
                    unfold Hid
                    rw [NX.out, if_pos rfl, if_neg hne, e44, str_cat, str_cat, str_cat]
                    congr 1
                    unfold twoD
                    rw [if_pos c10]
                    simp
                  clear c1 c2 e44 NX
                  go_wp2_with fail
                  refine (H1.out _).mono ?_
                  rintro e w5 ⟨rfl, rfl⟩
                  go_wp2_with fail
                  exact ⟨⟨k + 1, by omega, by go_num, by rw [E.out], up_al (up_al HB.out _) _⟩, by simp [intOf]; omega⟩
                · have c10' : ¬ (10 : Int) ≤ (k : Int) := by omega
                  have d1 := c1 wr wr.heap.size rfl
                  have E : Hid (strOfNums (listF s (k + 1)) = strOfNums F ++ { data := #[44] } ++ strOfNums [48 + (k : Int) % 10]) := by
                    unfold Hid
                    rw [NX.out, if_pos rfl, if_neg hne, e44, str_cat, str_cat]
                    congr 1
                    unfold twoD
                    rw [if_neg c10]
                    simp
                  clear c1 c2 e44 NX
                  go_wp2_with fail
                  refine (H1.out _).mono ?_
                  rintro e w5 ⟨rfl, rfl⟩
                  go_wp2_with fail
                  exact ⟨⟨k + 1, by omega, by go_num, by rw [E.out], up_al HB.out _⟩, by simp [intOf]; omega⟩
              · have hne : F = [] := of_decide_eq_true HV.out.symm
                by_cases c10 : 10 ≤ k
                · have c10' : (10 : Int) ≤ (k : Int) := by omega
                  have d1 := c2 wr wr.heap.size rfl
                  have d2 := fun o => c1 (wr.alloc o) (wr.heap.size + 1) (by simp)
                  have E : Hid (strOfNums (listF s (k + 1)) = strOfNums F ++ strOfNums [48 + (k : Int) / 10] ++ strOfNums [48 + (k : Int) % 10]) := by
                    unfold Hid
                    rw [NX.out, if_pos rfl, if_pos hne, str_cat, str_cat, hne]
                    congr 1
                    unfold twoD
                    rw [if_pos c10]
                    simp
                  clear c1 c2 e44 NX hne
                  go_wp2_with fail
                  refine (H1.out _).mono ?_
                  rintro e w5 ⟨rfl, rfl⟩
                  go_wp2_with fail
                  exact ⟨⟨k + 1, by omega, by go_num, by rw [E.out], up_al (up_al HB.out _) _⟩, by simp [intOf]; omega⟩
                · have c10' : ¬ (10 : Int) ≤ (k : Int) := by omega
                  have d1 := c1 wr wr.heap.size rfl
                  have E : Hid (strOfNums (listF s (k + 1)) = strOfNums F ++ strOfNums [48 + (k : Int) % 10]) := by
                    unfold Hid
                    rw [NX.out, if_pos rfl, if_pos hne, str_cat, hne]
                    congr 1
                    unfold twoD
                    rw [if_neg c10]
                    simp
                  clear c1 c2 e44 NX hne
                  go_wp2_with fail
                  refine (H1.out _).mono ?_
                  rintro e w5 ⟨rfl, rfl⟩
                  go_wp2_with fail
                  exact ⟨⟨k + 1, by omega, by go_num, by rw [E.out], up_al HB.out _⟩, by simp [intOf]; omega⟩
          · obtain rfl : k = 64 := by omega
            go_wp2_with fail
            go_ret
            exact ⟨by rw [R.out]; rfl, HB.out⟩
    cases star
    · exact main (.inl rfl)
    · exact main (.inr ⟨rfl, t14 rfl⟩)
theorem listL_len (s w : Nat) (b : Bool) : (listL s w b).length ≤ 192 := by
  unfold listL
  split
  · simp
  · have := listF_len s 64; omega
theorem listL_oct (s w : Nat) (b : Bool) : ∀ x ∈ listL s w b, 0 ≤ x ∧ x ≤ 255 := by
  unfold listL
  split
  · intro x hx; cases List.mem_singleton.1 hx; omega
  · exact listF_oct s 64 (by omega)
/-- A rule's text. -/
def printL (r : Ru) : List Int := listL r.mi (allN 0 59) true ++ (32 :: (listL r.ho (allN 0 23) true ++ (32 :: (listL r.da (allN 1 31) r.ad ++ (32 :: (listL r.mo (allN 1 12) true ++ (32 :: listL r.we (allN 0 6) r.aw)))))))
def printP (r : Ru) : List Int × Int := if checkP r ≠ 0 then ([], 9) else (printL r, 0)
theorem printL_cat (r : Ru) : strOfNums (listL r.mi (allN 0 59) true) ++ { data := #[32] } ++ strOfNums (listL r.ho (allN 0 23) true) ++ { data := #[32] } ++ strOfNums (listL r.da (allN 1 31) r.ad) ++ { data := #[32] } ++ strOfNums (listL r.mo (allN 1 12) true) ++ { data := #[32] } ++ strOfNums (listL r.we (allN 0 6) r.aw) = strOfNums (printL r) := by
  have e2 : ({ data := #[32] } : ByteArray) = strOfNums [32] := rfl
  rw [e2]
  simp only [str_cat]
  congr 1
  unfold printL
  simp
end Go.Proofs.YtbnghhmmanleaaaDoor
