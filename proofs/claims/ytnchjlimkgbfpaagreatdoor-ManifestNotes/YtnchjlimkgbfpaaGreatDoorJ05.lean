/- The texts P2, P3, P4, in this order. -/
import Derived.Test.YtnchjlimkgbfpaaGreatDoorJ04

namespace Go.Proofs.YtnchjlimkgbfpaaGreatDoor
open Go.RowKit
set_option linter.unusedVariables false
set_option maxRecDepth 20000
def rankOf {A : Type} (p : A → Bool) (l : List A) : Nat := (l.takeWhile p).length
theorem rankOf_le {A : Type} (p : A → Bool) (l : List A) : rankOf p l ≤ l.length := by
  unfold rankOf
  induction l with
  | nil => simp
  | cons x l ih =>
    rw [List.takeWhile_cons]
    split
    · simp; exact ih
    · simp
theorem rankOf_eq {A : Type} (p : A → Bool) (d : A) : ∀ (l : List A) (i : Nat), i ≤ l.length → (∀ j, j < i → p (l.getD j d) = true) → (i < l.length → p (l.getD i d) = false) → rankOf p l = i
  | [], i, h, _, _ => by simp at h; subst h; rfl
  | x :: l, 0, _, _, h2 => by
    have := h2 (by simp)
    simp at this
    simp [rankOf, this]
  | x :: l, i + 1, h, h1, h2 => by
    have h0 := h1 0 (by omega)
    simp at h0
    have ih := rankOf_eq p d l i (by simpa using h) (fun j hj => by have := h1 (j + 1) (by omega); simpa using this) (fun hj => by have := h2 (by simpa using hj); simpa using this)
    unfold rankOf at ih ⊢
    rw [List.takeWhile_cons, h0]
    simp [ih]
def rankN (l : List (List Int × Int)) (t : List Int) : Nat := rankOf (fun p => lessL p.1 t) l
def thereN (l : List (List Int × Int)) (t : List Int) : Bool := decide (rankN l t < l.length) && decide ((l.getD (rankN l t) ([], 0)).1 = t)
def rankF (l : List (Int × List Int × Int)) (id : Int) : Nat := rankOf (fun f => decide (f.1 < id)) l
def thereF (l : List (Int × List Int × Int)) (id : Int) : Bool := decide (rankF l id < l.length) && decide ((l.getD (rankF l id) (0, [], 0)).1 = id)
theorem placeCmp_any (s t : List Int) (i : Value) (hs : OctL s) (ht : OctL t) (w : World) :
    Calls Tryz.prog 166 #[.agg #[.string (strOfNums s), i], .string (strOfNums t)] w fun e w' => e = .returned (.int .i64 (cmpT s t)) ∧ Below w.heap.size w w' := by
  go_enter Tryz.func166, Tryz.ntmps166
  go_wp2_with fail
  refine (strCompare_any s t hs ht _).mono ?_
  rintro e w1 ⟨rfl, rfl⟩
  go_wp2
  go_ret
  exact ⟨rfl, up_al (Below.refl _ _) _⟩
theorem numCmp_any (a id : Int) (d y : Value) (w : World) :
    Calls Tryz.prog 169 #[.agg #[.int .i64 a, d, y], .int .i64 id] w fun e w' => e = .returned (.int .i64 (cmpI a id)) ∧ Below w.heap.size w w' := by
  go_enter Tryz.func169, Tryz.ntmps169
  go_wp2_with fail
  refine (cmpInt_any a id _).mono ?_
  rintro e w1 ⟨rfl, rfl⟩
  go_wp2
  go_ret
  exact ⟨rfl, up_al (Below.refl _ _) _⟩
theorem cmpT_neg (s t : List Int) : cmpT s t < 0 ↔ lessL s t = true := by
  unfold cmpT
  split
  · simp_all
  · split <;> simp_all
theorem cmpT_zero (s t : List Int) : cmpT s t = 0 ↔ s = t := by
  unfold cmpT
  split
  · rename_i h
    constructor
    · intro h; simp at h
    · intro e; subst e; rw [lessL_self] at h; cases h
  · split <;> simp_all
theorem cmpI_neg (a b : Int) : cmpI a b < 0 ↔ a < b := by
  unfold cmpI
  split
  · simp_all
  · split <;> simp_all
theorem cmpI_zero (a b : Int) : cmpI a b = 0 ↔ a = b := by
  unfold cmpI
  split
  · constructor
    · intro h; simp at h
    · omega
  · split
    · constructor
      · intro h; simp at h
      · omega
    · constructor
      · omega
      · intro _; rfl
set_option maxHeartbeats 1000000 in
theorem searchN_any (l : List (List Int × Int)) (t : List Int) (ht : OctL t) (v : Value) (w : World) (hv : NamesW w v l) (hln : l.length ≤ 70368744177664)
    (hm : ∀ a b, a ≤ b → b < l.length → lessL (l.getD b ([], 0)).1 t = true → lessL (l.getD a ([], 0)).1 t = true) :
    Calls Tryz.prog 165 #[v, .string (strOfNums t), .func (.func 166) #[] #[]] w fun e w' => e = .returned (.tuple #[.int .i64 (rankN l t), .bool (thereN l t)]) ∧ Below w.heap.size w w' := by
  have HV : Hid (NamesW w v l) := hv
  obtain ⟨a, cap, rfl, hcap, hmax⟩ := hv.len
  have HM : Hid (∀ a b, a ≤ b → b < l.length → lessL (l.getD b ([], 0)).1 t = true → lessL (l.getD a ([], 0)).1 t = true) := hm
  clear hv hm
  unfold maxLen at hmax
  go_enter Tryz.func165, Tryz.ntmps165
  go_wp2
  go_loopw [9, 10] (fun i j wr => ∃ lo hi : Nat, lo ≤ hi ∧ hi ≤ l.length ∧ i = .int .i64 lo ∧ j = .int .i64 hi ∧ Hid (∀ k, k < lo → lessL (l.getD k ([], 0)).1 t = true) ∧ Hid (∀ k, hi ≤ k → k < l.length → lessL (l.getD k ([], 0)).1 t = false) ∧ Hid (Below w.heap.size w wr)) (fun i j _ => (intOf j).toNat - (intOf i).toNat)
  case atStart => exact ⟨0, l.length, Nat.zero_le _, Nat.le_refl _, rfl, rfl, (fun k hk => by omega), (fun k h1 h2 => by omega), Below.refl _ _⟩
  case round =>
    obtain ⟨lo, hi, hlh, hhl, rfl, rfl, HL, HH, up⟩ := hrel
    by_cases hlt : lo < hi
    · have hlt' : (lo : Int) < (hi : Int) := by omega
      obtain ⟨m, hmd⟩ : ∃ m : Nat, m = (lo + hi) / 2 := ⟨_, rfl⟩
      have HMD : Hid (m = (lo + hi) / 2) := hmd
      have em : ((lo : Int) + (hi : Int)) / 2 = (m : Int) := by omega
      have hml : m < l.length := by omega
      have hm1 : lo ≤ m := by omega
      have hm2 : m < hi := by omega
      clear hmd
      obtain ⟨b, off, cap', e, _, _, c0, c1, ho, _, hi'⟩ := (HV.out.up up.out).at m hml
      simp at e
      obtain ⟨rfl, rfl⟩ := e
      obtain ⟨y, hy⟩ : ∃ y, y = l.getD m ([], 0) := ⟨_, rfl⟩
      have HY : Hid (y = l.getD m ([], 0)) := hy
      rw [← hy] at c0 c1 ho hi'
      clear hy
      obtain ⟨ys, yi⟩ := y
      simp only at c0 c1 ho
      have HO : Hid (OctL ys) := ho
      clear ho
      by_cases d : lessL ys t = true
      · have hneg : cmpT ys t < 0 := (cmpT_neg _ _).2 d
        go_wp2_with fail
        refine (placeCmp_any ys t _ HO.out ht _).mono ?_
        rintro e w1 ⟨rfl, hb1⟩
        have up1 : Hid (Below w.heap.size w w1) := up_trans up.out hb1
        clear hb1
        go_wp2
        refine ⟨⟨m + 1, hi, by omega, hhl, by go_num, rfl, ?_, HH, up1⟩, by simp [intOf]; omega⟩
        intro k hk
        exact HM.out k m (by omega) hml (by rw [← HY.out]; exact d)
      · have hneg : ¬ cmpT ys t < 0 := fun h => d ((cmpT_neg _ _).1 h)
        go_wp2_with fail
        refine (placeCmp_any ys t _ HO.out ht _).mono ?_
        rintro e w1 ⟨rfl, hb1⟩
        have up1 : Hid (Below w.heap.size w w1) := up_trans up.out hb1
        clear hb1
        go_wp2
        refine ⟨⟨lo, m, by omega, by omega, rfl, by go_num, HL, ?_, up1⟩, by simp [intOf]; omega⟩
        intro k hk hkl
        cases hq : lessL (l.getD k ([], 0)).1 t with
        | false => rfl
        | true =>
          have := HM.out m k hk hkl hq
          rw [← HY.out] at this
          exact absurd this d
    · have hlt' : ¬ (lo : Int) < (hi : Int) := by omega
      obtain rfl : lo = hi := by omega
      have HR : Hid (rankN l t = lo) := rankOf_eq _ ([], 0) l lo hhl HL.out (fun h => HH.out lo (Nat.le_refl _) h)
      by_cases hn : lo < l.length
      · have hn' : (lo : Int) < (l.length : Int) := by omega
        obtain ⟨b, off, cap', e, _, _, c0, c1, ho, _, hi'⟩ := (HV.out.up up.out).at lo hn
        simp at e
        obtain ⟨rfl, rfl⟩ := e
        have HT : Hid (thereN l t = decide ((l.getD lo ([], 0)).1 = t)) := by
          unfold Hid thereN
          rw [HR.out, decide_eq_true hn]
          simp
        generalize l.getD lo ([], 0) = y at *
        obtain ⟨ys, yi⟩ := y
        simp only at c0 c1 ho HT
        have HO : Hid (OctL ys) := ho
        clear ho
        by_cases d : ys = t
        · have hz : cmpT ys t = 0 := (cmpT_zero _ _).2 d
          have HT2 : Hid (thereN l t = true) := HT.out.trans (decide_eq_true d)
          clear d
          go_wp2_with fail
          refine (placeCmp_any ys t _ HO.out ht _).mono ?_
          rintro e w1 ⟨rfl, hb1⟩
          have up1 : Hid (Below w.heap.size w w1) := up_trans up.out hb1
          clear hb1
          go_wp2
          go_ret2
          rw [HR.out, HT2.out]
          exact ⟨rfl, up1.out⟩
        · have hz : (cmpT ys t == 0) = false := by rw [beq_eq_false_iff_ne]; exact fun h => d ((cmpT_zero _ _).1 h)
          have HT2 : Hid (thereN l t = false) := HT.out.trans (decide_eq_false d)
          clear d
          go_wp2_with fail
          refine (placeCmp_any ys t _ HO.out ht _).mono ?_
          rintro e w1 ⟨rfl, hb1⟩
          have up1 : Hid (Below w.heap.size w w1) := up_trans up.out hb1
          clear hb1
          go_wp2
          go_ret2
          rw [HR.out, HT2.out]
          exact ⟨rfl, up1.out⟩
      · have hn' : ¬ (lo : Int) < (l.length : Int) := by omega
        have HT : Hid (thereN l t = false) := by
          unfold Hid thereN
          rw [HR.out, decide_eq_false hn]
          rfl
        go_wp2
        go_ret2
        rw [HR.out, HT.out]
        exact ⟨rfl, up.out⟩
set_option maxHeartbeats 1000000 in
theorem searchF_any (l : List (Int × List Int × Int)) (t : Int) (v : Value) (w : World) (hv : FilesW w v l) (hln : l.length ≤ 70368744177664)
    (hm : ∀ a b, a ≤ b → b < l.length → (l.getD b (0, [], 0)).1 < t → (l.getD a (0, [], 0)).1 < t) :
    Calls Tryz.prog 168 #[v, .int .i64 t, .func (.func 169) #[] #[]] w fun e w' => e = .returned (.tuple #[.int .i64 (rankF l t), .bool (thereF l t)]) ∧ Below w.heap.size w w' := by
  have HV : Hid (FilesW w v l) := hv
  obtain ⟨a, cap, rfl, hcap, hmax⟩ := hv.len
  have HM : Hid (∀ a b, a ≤ b → b < l.length → (l.getD b (0, [], 0)).1 < t → (l.getD a (0, [], 0)).1 < t) := hm
  clear hv hm
  unfold maxLen at hmax
  go_enter Tryz.func168, Tryz.ntmps168
  go_wp2
  go_loopw [9, 10] (fun i j wr => ∃ lo hi : Nat, lo ≤ hi ∧ hi ≤ l.length ∧ i = .int .i64 lo ∧ j = .int .i64 hi ∧ Hid (∀ k, k < lo → (l.getD k (0, [], 0)).1 < t) ∧ Hid (∀ k, hi ≤ k → k < l.length → t ≤ (l.getD k (0, [], 0)).1) ∧ Hid (Below w.heap.size w wr)) (fun i j _ => (intOf j).toNat - (intOf i).toNat)
  case atStart => exact ⟨0, l.length, Nat.zero_le _, Nat.le_refl _, rfl, rfl, (fun k hk => by omega), (fun k h1 h2 => by omega), Below.refl _ _⟩
  case round =>
    obtain ⟨lo, hi, hlh, hhl, rfl, rfl, HL, HH, up⟩ := hrel
    by_cases hlt : lo < hi
    · have hlt' : (lo : Int) < (hi : Int) := by omega
      obtain ⟨m, hmd⟩ : ∃ m : Nat, m = (lo + hi) / 2 := ⟨_, rfl⟩
      have HMD : Hid (m = (lo + hi) / 2) := hmd
      have em : ((lo : Int) + (hi : Int)) / 2 = (m : Int) := by omega
      have hml : m < l.length := by omega
      have hm1 : lo ≤ m := by omega
      have hm2 : m < hi := by omega
      clear hmd
      obtain ⟨b, off, cap', u, e, _, _, c0, c1, c2, ho, _, hi', _⟩ := (HV.out.up up.out).at m hml
      simp at e
      obtain ⟨rfl, rfl⟩ := e
      obtain ⟨y, hy⟩ : ∃ y, y = l.getD m (0, [], 0) := ⟨_, rfl⟩
      have HY : Hid (y = l.getD m (0, [], 0)) := hy
      rw [← hy] at c0 c2 ho hi'
      clear hy
      obtain ⟨ys, yd, yi⟩ := y
      simp only at c0 c2 hi'
      by_cases d : ys < t
      · have hneg : cmpI ys t < 0 := (cmpI_neg _ _).2 d
        go_wp2_with fail
        refine (numCmp_any ys t _ _ _).mono ?_
        rintro e w1 ⟨rfl, hb1⟩
        have up1 : Hid (Below w.heap.size w w1) := up_trans up.out hb1
        clear hb1
        go_wp2
        refine ⟨⟨m + 1, hi, by omega, hhl, by go_num, rfl, ?_, HH, up1⟩, by simp [intOf]; omega⟩
        intro k hk
        exact HM.out k m (by omega) hml (by rw [← HY.out]; exact d)
      · have hneg : ¬ cmpI ys t < 0 := fun h => d ((cmpI_neg _ _).1 h)
        go_wp2_with fail
        refine (numCmp_any ys t _ _ _).mono ?_
        rintro e w1 ⟨rfl, hb1⟩
        have up1 : Hid (Below w.heap.size w w1) := up_trans up.out hb1
        clear hb1
        go_wp2
        refine ⟨⟨lo, m, by omega, by omega, rfl, by go_num, HL, ?_, up1⟩, by simp [intOf]; omega⟩
        intro k hk hkl
        rcases (by omega : (l.getD k (0, [], 0)).1 < t ∨ t ≤ (l.getD k (0, [], 0)).1) with hq | hq
        · have := HM.out m k hk hkl hq
          rw [← HY.out] at this
          simp only at this
          omega
        · exact hq
    · have hlt' : ¬ (lo : Int) < (hi : Int) := by omega
      obtain rfl : lo = hi := by omega
      have HR : Hid (rankF l t = lo) := rankOf_eq _ (0, [], 0) l lo hhl (fun j hj => decide_eq_true (HL.out j hj)) (fun h => decide_eq_false (Int.not_lt.2 (HH.out lo (Nat.le_refl _) h)))
      by_cases hn : lo < l.length
      · have hn' : (lo : Int) < (l.length : Int) := by omega
        obtain ⟨b, off, cap', u, e, _, _, c0, c1, c2, ho, _, hi', _⟩ := (HV.out.up up.out).at lo hn
        simp at e
        obtain ⟨rfl, rfl⟩ := e
        have HT : Hid (thereF l t = decide ((l.getD lo (0, [], 0)).1 = t)) := by
          unfold Hid thereF
          rw [HR.out, decide_eq_true hn]
          simp
        generalize l.getD lo (0, [], 0) = y at *
        obtain ⟨ys, yd, yi⟩ := y
        simp only at c0 c2 hi' HT
        by_cases d : ys = t
        · have hz : cmpI ys t = 0 := (cmpI_zero _ _).2 d
          have HT2 : Hid (thereF l t = true) := HT.out.trans (decide_eq_true d)
          clear d
          go_wp2_with fail
          refine (numCmp_any ys t _ _ _).mono ?_
          rintro e w1 ⟨rfl, hb1⟩
          have up1 : Hid (Below w.heap.size w w1) := up_trans up.out hb1
          clear hb1
          go_wp2
          go_ret2
          rw [HR.out, HT2.out]
          exact ⟨rfl, up1.out⟩
        · have hz : (cmpI ys t == 0) = false := by rw [beq_eq_false_iff_ne]; exact fun h => d ((cmpI_zero _ _).1 h)
          have HT2 : Hid (thereF l t = false) := HT.out.trans (decide_eq_false d)
          clear d
          go_wp2_with fail
          refine (numCmp_any ys t _ _ _).mono ?_
          rintro e w1 ⟨rfl, hb1⟩
          have up1 : Hid (Below w.heap.size w w1) := up_trans up.out hb1
          clear hb1
          go_wp2
          go_ret2
          rw [HR.out, HT2.out]
          exact ⟨rfl, up1.out⟩
      · have hn' : ¬ (lo : Int) < (l.length : Int) := by omega
        have HT : Hid (thereF l t = false) := by
          unfold Hid thereF
          rw [HR.out, decide_eq_false hn]
          rfl
        go_wp2
        go_ret2
        rw [HR.out, HT.out]
        exact ⟨rfl, up.out⟩
end Go.Proofs.YtnchjlimkgbfpaaGreatDoor

namespace Go.Proofs.YtnchjlimkgbfpaaGreatDoor
open Go.RowKit
set_option linter.unusedVariables false
set_option maxRecDepth 20000
def RiseN (l : List (List Int × Int)) : Prop := ∀ a b, a < b → b < l.length → lessL (l.getD a ([], 0)).1 (l.getD b ([], 0)).1 = true
def RiseF (l : List (Int × List Int × Int)) : Prop := ∀ a b, a < b → b < l.length → (l.getD a (0, [], 0)).1 < (l.getD b (0, [], 0)).1
theorem RiseN.mono {l : List (List Int × Int)} (h : RiseN l) (t : List Int) : ∀ a b, a ≤ b → b < l.length → lessL (l.getD b ([], 0)).1 t = true → lessL (l.getD a ([], 0)).1 t = true := by
  intro a b hab hb hl
  rcases Nat.lt_or_ge a b with c | c
  · exact lessL_trans _ _ _ (h a b c hb) hl
  · obtain rfl : a = b := by omega
    exact hl
theorem RiseF.mono {l : List (Int × List Int × Int)} (h : RiseF l) (t : Int) : ∀ a b, a ≤ b → b < l.length → (l.getD b (0, [], 0)).1 < t → (l.getD a (0, [], 0)).1 < t := by
  intro a b hab hb hl
  rcases Nat.lt_or_ge a b with c | c
  · have := h a b c hb
    omega
  · obtain rfl : a = b := by omega
    exact hl
theorem place_any (l : List (List Int × Int)) (t : List Int) (ht : OctL t) (v : Value) (w : World) (hv : NamesW w v l) (hln : l.length ≤ 70368744177664) (hr : RiseN l) :
    Calls Tryz.prog 130 #[v, .string (strOfNums t)] w fun e w' => e = .returned (.tuple #[.int .i64 (rankN l t), .bool (thereN l t)]) ∧ Below w.heap.size w w' := by
  have h := searchN_any l t ht v w hv hln (hr.mono t)
  go_enter Tryz.func130, Tryz.ntmps130
  go_wp2_with fail
  refine h.mono ?_
  rintro e w1 ⟨rfl, hb1⟩
  have up1 : Hid (Below w.heap.size w w1) := hb1
  clear hb1 h
  go_wp2
  go_ret2
  exact ⟨rfl, up1.out⟩
theorem numbered_any (l : List (Int × List Int × Int)) (t : Int) (v : Value) (w : World) (hv : FilesW w v l) (hln : l.length ≤ 70368744177664) (hr : RiseF l) :
    Calls Tryz.prog 131 #[v, .int .i64 t] w fun e w' => e = .returned (.tuple #[.int .i64 (rankF l t), .bool (thereF l t)]) ∧ Below w.heap.size w w' := by
  have h := searchF_any l t v w hv hln (hr.mono t)
  go_enter Tryz.func131, Tryz.ntmps131
  go_wp2_with fail
  refine h.mono ?_
  rintro e w1 ⟨rfl, hb1⟩
  have up1 : Hid (Below w.heap.size w w1) := hb1
  clear hb1 h
  go_wp2
  go_ret2
  exact ⟨rfl, up1.out⟩
theorem lt_of_thereN {l : List (List Int × Int)} {t : List Int} (h : thereN l t = true) : rankN l t < l.length := by
  unfold thereN at h
  rw [Bool.and_eq_true, decide_eq_true_eq] at h
  exact h.1
set_option maxHeartbeats 1000000 in
theorem file_any (fs : List (Int × List Int × Int)) (l : List (List Int × Int)) (t : List Int) (ht : OctL t) (x0 vf vn vs x4 : Value) (w : World) (hf : FilesW w vf fs) (hv : NamesW w vn l)
    (hl1 : fs.length ≤ 70368744177664) (hl2 : l.length ≤ 70368744177664) (hrf : RiseF fs) (hrn : RiseN l) :
    Calls Tryz.prog 87 #[.agg #[x0, vf, vn, vs, x4], .string (strOfNums t)] w fun e w' => e = .returned (.tuple #[.int .i64 (if thereN l t then (rankF fs (l.getD (rankN l t) ([], 0)).2 : Int) else 0), .bool (thereN l t && thereF fs (l.getD (rankN l t) ([], 0)).2)]) ∧ Below w.heap.size w w' := by
  have HF : Hid (FilesW w vf fs) := hf
  have HV : Hid (NamesW w vn l) := hv
  have HP : Hid (RiseF fs ∧ RiseN l) := ⟨hrf, hrn⟩
  clear hf hv hrf hrn
  go_enter Tryz.func87, Tryz.ntmps87
  go_wp2_with fail
  refine (place_any l t ht vn _ (HV.out.up (up_al (Below.refl _ _) _)) hl2 HP.out.2).mono ?_
  rintro e w1 ⟨rfl, hb1⟩
  have up1 : Hid (Below w.heap.size w w1) := up_trans (up_al (Below.refl _ _) _) hb1
  have hbox : ∀ i x, (#[x0, vf, vn, vs, x4] : Array Value)[i]? = some x → w1.cell? ⟨w.heap.size, i, none⟩ = some x := by
    intro i x hi
    have e := World.cell?_alloc_new w #[x0, vf, vn, vs, x4] 35 i
    rw [hi] at e
    exact (hb1.cell (p := ⟨w.heap.size, i, none⟩) (by simp)).trans e
  have q1 := hbox 1 vf rfl
  have q2 := hbox 2 vn rfl
  clear hbox hb1
  cases hth : thereN l t with
  | false =>
    go_wp2
    all_goals
      go_ret2
      exact ⟨by simp, up1.out⟩
  | true =>
    have hlt := lt_of_thereN hth
    have hlt' : ((rankN l t : Nat) : Int) < (l.length : Int) := by omega
    obtain ⟨b, off, cap', e, _, _, c0, c1, ho, _, hi'⟩ := (HV.out.up up1.out).at (rankN l t) hlt
    subst e
    have HI : Hid (∃ r id, r = rankN l t ∧ id = (l.getD (rankN l t) ([], 0)).2) := ⟨_, _, rfl, rfl⟩
    obtain ⟨r, id, hr, hid⟩ := HI.out
    rw [← hr] at hlt' c1
    rw [← hr] at hid
    rw [← hid] at c1
    have HID : Hid (id = (l.getD (rankN l t) ([], 0)).2) := by unfold Hid; rw [← hr]; exact hid
    clear c0 ho hi' hlt hid HI
    have HR : Hid (r = rankN l t) := hr
    rw [← hr]
    clear hr
    have p1 := cell_up q1
    have p2 := cell_up q2
    have p3 := cell_up c1
    have HF1 : Hid (FilesW w1 vf fs) := HF.out.up up1.out
    go_wp2_with fail
    refine wp_region_up (by kernel_rfl) (by kernel_rfl) ?_
    repeat (quiet_step ((go_at_call 131; refine calls_up (numbered_any fs id vf _ (HF1.out.up (UpW.up _)) hl1 HP.out.1))))
    refine wpQuiet_nil ?_
    intro _ hw'
    obtain ⟨p, hw''⟩ := hw'
    subst hw''
    go_wp2
    go_ret2
    exact ⟨by simp [← HR.out, HID.out], up_trans up1.out p.up⟩
end Go.Proofs.YtnchjlimkgbfpaaGreatDoor

namespace Go.Proofs.YtnchjlimkgbfpaaGreatDoor
open Go.RowKit
set_option linter.unusedVariables false
set_option maxRecDepth 20000
def addId (ids : List Int) (x : Int) : List Int := if ids.contains x then ids else ids ++ [x]
def idsOf (l : List (List Int × Int)) : List Int := (l.map (·.2)).foldl addId []
theorem idsOf_snoc (l : List (List Int × Int)) (p : List Int × Int) : idsOf (l ++ [p]) = addId (idsOf l) p.2 := by
  simp [idsOf, List.foldl_append]
theorem addId_len (ids : List Int) (x : Int) : (addId ids x).length ≤ ids.length + 1 := by
  unfold addId
  split <;> simp
theorem idsOf_len (l : List (List Int × Int)) : (idsOf l).length ≤ l.length := by
  unfold idsOf
  have h : ∀ (m : List Int) (acc : List Int), (m.foldl addId acc).length ≤ acc.length + m.length := by
    intro m
    induction m with
    | nil => intro acc; simp
    | cons x m ih =>
      intro acc
      have h1 := ih (addId acc x)
      have h2 := addId_len acc x
      simp only [List.foldl_cons, List.length_cons]
      omega
  have := h (l.map (·.2)) []
  simpa using this
def SetW (w : World) (b : Nat) (ids : List Int) : Prop := ∃ D : DataW Unit, w.ownsMap Tryz.prog 3 unitElem b ids.length D ∧ Maps.Tidy D ∧ Maps.size D = ids.length ∧ ∀ x, Maps.has D (.int .i64 x) = ids.contains x
theorem own_tight {w : World} {b n : Nat} {D : DataW Unit} (h : w.ownsMap Tryz.prog 3 unitElem b n D) : w.ownsMap Tryz.prog 3 unitElem b (Maps.size D) D := by
  obtain ⟨es, clock, hb, F, hs, rfl⟩ := h
  exact ⟨es, clock, hb, F, by simp [Maps.size, length_sorted], rfl⟩
theorem wf_i64_of {x : Int} (h : In64 x) : (Lit.int .i64 x).wf = true := by
  refine WalkArith.wf_i64 ?_
  exact h
theorem SetW.made (w : World) : SetW (w.alloc (.map #[] 0)) w.heap.size [] :=
  ⟨.map [], World.ownsMap_made w Tryz.prog 3 unitElem, Maps.tidy_empty, rfl, fun x => rfl⟩
theorem SetW.lt {w : World} {b : Nat} {ids : List Int} (h : SetW w b ids) : b < w.heap.size := by
  obtain ⟨D, h1, _⟩ := h
  exact h1.lt
theorem SetW.kept {w w' : World} {b : Nat} {ids : List Int} {r : Option Nat} (h : SetW w b ids) (hg : w.grownBy w' r) (hne : some b ≠ r) : SetW w' b ids := by
  obtain ⟨D, h1, h2⟩ := h
  exact ⟨D, h1.kept hg hne, h2⟩
theorem SetW.up {w w' : World} {b : Nat} {ids : List Int} (h : SetW w b ids) (hb : Below w.heap.size w w') : SetW w' b ids := by
  obtain ⟨D, ⟨es, clock, hh, r⟩, h2⟩ := h
  exact ⟨D, ⟨es, clock, (hb.block b (Array.getElem?_eq_some_iff.1 hh).1).trans hh, r⟩, h2⟩
theorem SetW.put {w' : World} {b : Nat} {ids : List Int} {x : Int} {D : DataW Unit} (hx : In64 x) (h2 : Maps.Tidy D) (h3 : Maps.size D = ids.length) (h4 : ∀ y, Maps.has D (.int .i64 y) = ids.contains y)
    (h : w'.ownsMap Tryz.prog 3 unitElem b (ids.length + 1) (D.put (.int .i64 x) (.agg []))) : SetW w' b (addId ids x) := by
  have hk : WideAt.IsKeyLit (.int .i64 x) := trivial
  have hsz : Maps.size (D.put (.int .i64 x) (.agg [])) = (addId ids x).length := by
    rw [Maps.size_put h2, h4 x, h3]
    unfold addId
    split <;> simp
  refine ⟨D.put (.int .i64 x) (.agg []), ?_, h2.put hk _, hsz, fun y => ?_⟩
  · have := own_tight h
    rw [hsz] at this
    exact this
  · by_cases e : y = x
    · subst e
      rw [Maps.has_put_same h2.isMap hk]
      unfold addId
      split <;> simp_all
    · rw [Maps.has_put_other (by intro q; injection q with _ q; exact e q), h4 y]
      unfold addId
      split
      · rfl
      · simp [e]
theorem wpList_set_put (w : World) {ops : Array Oper} {rest : List Oper} {o : Oper} {a : Act} {Q : Exit → Act → World → Prop} (hgd : o.guard = none) (m x v : Operand) (hop : o.op = Op.mapUpdate 233 m x v)
    (b : Nat) (ids : List Int) (hm : a.eval m = .map (some b)) (hs : SetW w b ids) (hn : ids.length < maxLen) (id : Int) (hid : In64 id) (hx : a.eval x = .int .i64 id) (hv : a.eval v = .agg #[])
    (hK : ∀ w', SetW w' b (addId ids id) → w.grownBy w' (some b) → wpList Tryz.prog ops Q rest (a.put o.dst undef) w') : wpList Tryz.prog ops Q (o :: rest) a w := by
  obtain ⟨D, h1, h2, h3, h4⟩ := hs
  refine wpList_mapUpdate_own w hgd m x v 233 hop 3 131 (Maps.int_keyed Tryz.underlying3) Tryz.underlying233 unitElem b ids.length D hm h1 hn _ _ (.int .i64 id) hx hv (Maps.keyOf_int_mk Tryz.underlying3 (wf_i64_of hid)) (.agg []) [] unitElem_mk ?_
  intro w' r1 r2
  exact hK w' (SetW.put hid h2 h3 h4 r1) r2
def allN (ls : List (Value × List (List Int × Int))) : List (List Int × Int) := (ls.map (·.2)).flatten
theorem allN_snoc (ls : List (Value × List (List Int × Int))) (k : Nat) (h : k < ls.length) (d : Value × List (List Int × Int)) : allN (ls.take (k + 1)) = allN (ls.take k) ++ (ls.getD k d).2 := by
  rw [take_snoc ls k d h]
  simp [allN]
theorem allN_len (ls : List (Value × List (List Int × Int))) (k : Nat) (h : k < ls.length) (d : Value × List (List Int × Int)) : (allN (ls.take k)).length + (ls.getD k d).2.length ≤ (allN ls).length := by
  have e := allN_snoc ls k h d
  have e2 : allN ls = allN (ls.take (k + 1)) ++ allN (ls.drop (k + 1)) := by
    unfold allN
    rw [← List.flatten_append, ← List.map_append, List.take_append_drop]
  rw [e2, e, List.length_append, List.length_append]
  omega
set_option maxHeartbeats 1000000 in
theorem numbers_any (ls : List (Value × List (List Int × Int))) (B cap : Nat) (w : World) (hne : ls.length ≤ 2) (hc : ∀ j, j < ls.length → w.cell? ⟨B, j, none⟩ = some (ls.getD j (.slice none 0 0, [])).1)
    (hN : ∀ j, j < ls.length → NamesW w (ls.getD j (.slice none 0 0, [])).1 (ls.getD j (.slice none 0 0, [])).2) (htot : (allN ls).length ≤ maxLen) :
    Calls Tryz.prog 148 #[.slice (some ⟨B, 0, none⟩) ls.length cap] w fun e w' => e = .returned (.map (some w.heap.size)) ∧ SetW w' w.heap.size (idsOf (allN ls)) ∧ Below w.heap.size w w' := by
  have HC : Hid (∀ j, j < ls.length → w.cell? ⟨B, j, none⟩ = some (ls.getD j (.slice none 0 0, [])).1) := hc
  have HN : Hid (∀ j, j < ls.length → NamesW w (ls.getD j (.slice none 0 0, [])).1 (ls.getD j (.slice none 0 0, [])).2) := hN
  clear hc hN
  unfold maxLen at htot
  have hmm := @run_makeMap Tryz.prog
  go_enter Tryz.func148, Tryz.ntmps148
  go_wp2
  go_loopw [11] (fun i wr => ∃ k : Nat, k ≤ ls.length ∧ i = .int .i64 k ∧ Hid (SetW wr w.heap.size (idsOf (allN (ls.take k)))) ∧ Hid (Below w.heap.size w wr)) (fun i _ => ls.length - (intOf i).toNat)
  case atStart => exact ⟨0, Nat.zero_le _, rfl, SetW.made w, up_al (Below.refl _ _) _⟩
  case round =>
    obtain ⟨k, hk, rfl, HS, up⟩ := hrel
    by_cases hlt : k < ls.length
    · have hlt' : (k : Int) < (ls.length : Int) := by omega
      have ck := HC.out k hlt
      have ck' := (up.out.cell (p := ⟨B, k, none⟩) (World.block_lt_of_cell? w _ ck)).trans ck
      have HNk : Hid (NamesW w (ls.getD k (.slice none 0 0, [])).1 (ls.getD k (.slice none 0 0, [])).2) := HN.out k hlt
      have HSn : Hid (allN (ls.take (k + 1)) = allN (ls.take k) ++ (ls.getD k (.slice none 0 0, [])).2) := allN_snoc ls k hlt _
      have hlen := allN_len ls k hlt (.slice none 0 0, [])
      clear ck
      generalize ls.getD k (.slice none 0 0, []) = y at *
      obtain ⟨yv, l⟩ := y
      simp only at ck' HNk HSn hlen
      obtain ⟨a, cap2, rfl, hcap2, hmax2⟩ := HNk.out.len
      generalize allN (ls.take k) = done at *
      go_wp2
      go_loopw [17] (fun i wr => ∃ j : Nat, j ≤ l.length ∧ i = .int .i64 j ∧ Hid (SetW wr w.heap.size (idsOf (done ++ l.take j))) ∧ Hid (Below w.heap.size w wr)) (fun i _ => l.length - (intOf i).toNat)
      case atStart => exact ⟨0, Nat.zero_le _, rfl, by rw [List.take_zero, List.append_nil]; exact HS.out, up.out⟩
      case round =>
        clear HS up ck'
        obtain ⟨j, hj, rfl, HS, up⟩ := hrel
        by_cases hjl : j < l.length
        · have hjl' : (j : Int) < (l.length : Int) := by omega
          obtain ⟨b, off, cap', e, _, _, c0, c1, ho, _, hi'⟩ := (HNk.out.up up.out).at j hjl
          simp at e
          obtain ⟨rfl, rfl⟩ := e
          have HT : Hid (l.take (j + 1) = l.take j ++ [l.getD j ([], 0)]) := take_snoc l j _ hjl
          have HI : Hid (In64 (l.getD j ([], 0)).2) := hi'
          have HSl : Hid ((idsOf (done ++ l.take j)).length < maxLen) := by
            have := idsOf_len (done ++ l.take j)
            rw [List.length_append, List.length_take] at this
            unfold Hid maxLen
            omega
          have hws := SetW.lt HS.out
          generalize l.getD j ([], 0) = y at *
          obtain ⟨ys, yi⟩ := y
          simp only at c0 c1 HI HT
          clear ho hi'
          have HG : Hid (SetW wr w.heap.size (idsOf (done ++ l.take j))) := HS.out
          have HSet : Hid (SetW (wr.alloc (.cells #[.string (strOfNums ys), .int .i64 yi] 146)) w.heap.size (idsOf (done ++ l.take j))) := HS.out.up (up_al (Below.refl _ _) _)
          have HUp : Hid (Below w.heap.size w (wr.alloc (.cells #[.string (strOfNums ys), .int .i64 yi] 146))) := up_al up.out _
          go_wp2_with (at_mapUpdate; refine wpList_set_put _ rfl _ _ _ rfl w.heap.size _ rfl HSet.out HSl.out yi HI.out rfl rfl ?_; intro w1 hset1 hgrow1)
          have hset2 : SetW w1 w.heap.size (idsOf (done ++ l.take (j + 1))) := by
            rw [HT.out, ← List.append_assoc, idsOf_snoc]
            exact hset1
          exact ⟨⟨j + 1, by omega, by go_num, hset2, HUp.out.grown hgrow1 HUp.out.size (fun k hk => by injection hk with hk; omega)⟩, by simp [intOf]; omega⟩
        · have hjl' : ¬ (j : Int) < (l.length : Int) := by omega
          obtain rfl : j = l.length := by omega
          have HS2 : Hid (SetW wr w.heap.size (idsOf (allN (ls.take (k + 1))))) := by
            unfold Hid
            rw [HSn.out, ← List.take_length (l := l)]
            exact HS.out
          go_wp2
          exact ⟨⟨k + 1, by omega, by go_num, HS2, up⟩, by simp [intOf]; omega⟩
    · have hlt' : ¬ (k : Int) < (ls.length : Int) := by omega
      obtain rfl : k = ls.length := by omega
      have HS2 : Hid (SetW wr w.heap.size (idsOf (allN ls))) := by
        have := HS.out
        rw [List.take_length] at this
        exact this
      go_wp2
      go_ret
      exact ⟨rfl, HS2.out, up.out⟩
end Go.Proofs.YtnchjlimkgbfpaaGreatDoor
