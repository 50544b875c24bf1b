/- The search for a name or a number in a list that is in order. -/
import Derived.Test.YtoceddpjkodfkaaP1
namespace Go.Proofs.Ytoceddpjkodfkaa
open Go.RowKit
set_option linter.unusedVariables false

/-- How many stand ahead of the first that does not meet p. -/
def rankOf {A : Type} (p : A → Bool) (l : List A) : Nat := (l.takeWhile p).length

theorem rankOf_le {A : Type} (p : A → Bool) (l : List A) : rankOf p l ≤ l.length := by
  unfold rankOf
  induction l with
  | nil => simp
  | cons x l ih =>
    rw [List.takeWhile_cons]
    split
    · simp; exact ih
    · simp

theorem rankOf_eq {A : Type} (p : A → Bool) (d : A) : ∀ (l : List A) (i : Nat), i ≤ l.length → (∀ j, j < i → p (l.getD j d) = true) → (i < l.length → p (l.getD i d) = false) → rankOf p l = i
  | [], i, h, _, _ => by simp at h; subst h; rfl
  | x :: l, 0, _, _, h2 => by
    have := h2 (by simp)
    simp at this
    simp [rankOf, this]
  | x :: l, i + 1, h, h1, h2 => by
    have h0 := h1 0 (by omega)
    simp at h0
    have ih := rankOf_eq p d l i (by simpa using h) (fun j hj => by have := h1 (j + 1) (by omega); simpa using this) (fun hj => by have := h2 (by simpa using hj); simpa using this)
    unfold rankOf at ih ⊢
    rw [List.takeWhile_cons, h0]
    simp [ih]

theorem rankOf_before {A : Type} (p : A → Bool) (d : A) : ∀ (l : List A) (j : Nat), j < rankOf p l → p (l.getD j d) = true
  | [], j, h => by simp [rankOf] at h
  | x :: l, j, h => by
    unfold rankOf at h
    rw [List.takeWhile_cons] at h
    split at h
    · rename_i hx
      cases j with
      | zero => simpa using hx
      | succ j => have := rankOf_before p d l j (by unfold rankOf; simpa using h); simpa using this
    · simp at h

theorem rankOf_at {A : Type} (p : A → Bool) (d : A) : ∀ (l : List A), rankOf p l < l.length → p (l.getD (rankOf p l) d) = false
  | [], h => by simp at h
  | x :: l, h => by
    unfold rankOf at h ⊢
    rw [List.takeWhile_cons] at h ⊢
    split at h
    · rename_i hx
      have := rankOf_at p d l (by unfold rankOf; simpa using h)
      simpa [hx, rankOf] using this
    · rename_i hx
      simp [hx]

/-- Where a text stands in a list of names, or would stand; is it there? -/
def rankN (l : List (List Int × Int)) (t : List Int) : Nat := rankOf (fun p => lessL p.1 t) l
def thereN (l : List (List Int × Int)) (t : List Int) : Bool := decide (rankN l t < l.length) && decide ((l.getD (rankN l t) ([], 0)).1 = t)

def rankF (l : List (Int × List Int × Int)) (id : Int) : Nat := rankOf (fun f => decide (f.1 < id)) l
def thereF (l : List (Int × List Int × Int)) (id : Int) : Bool := decide (rankF l id < l.length) && decide ((l.getD (rankF l id) (0, [], 0)).1 = id)

theorem placeCmp_any (s t : List Int) (i : Value) (hs : OctL s) (ht : OctL t) (w : World) :
    Calls Try.prog 75 #[.agg #[.string (strOfNums s), i], .string (strOfNums t)] w fun e w' => e = .returned (.int .i64 (cmpT s t)) ∧ Below w.heap.size w w' := by
  go_enter Try.func75, Try.ntmps75
  go_wp2_with fail
  refine (strCompare_any s t hs ht _).mono ?_
  rintro e w1 ⟨rfl, rfl⟩
  go_wp2
  go_ret
  exact ⟨rfl, up_al (Below.refl _ _) _⟩

theorem numCmp_any (a id : Int) (d y : Value) (w : World) :
    Calls Try.prog 78 #[.agg #[.int .i64 a, d, y], .int .i64 id] w fun e w' => e = .returned (.int .i64 (cmpI a id)) ∧ Below w.heap.size w w' := by
  go_enter Try.func78, Try.ntmps78
  go_wp2_with fail
  refine (cmpInt_any a id _).mono ?_
  rintro e w1 ⟨rfl, rfl⟩
  go_wp2
  go_ret
  exact ⟨rfl, up_al (Below.refl _ _) _⟩

theorem cmpT_neg (s t : List Int) : cmpT s t < 0 ↔ lessL s t = true := by
  unfold cmpT
  split
  · simp_all
  · split <;> simp_all
theorem cmpT_zero (s t : List Int) : cmpT s t = 0 ↔ s = t := by
  unfold cmpT
  split
  · rename_i h
    constructor
    · intro h; simp at h
    · intro e; subst e; rw [lessL_self] at h; cases h
  · split <;> simp_all
theorem cmpI_neg (a b : Int) : cmpI a b < 0 ↔ a < b := by
  unfold cmpI
  split
  · simp_all
  · split <;> simp_all
theorem cmpI_zero (a b : Int) : cmpI a b = 0 ↔ a = b := by
  unfold cmpI
  split
  · constructor
    · intro h; simp at h
    · omega
  · split
    · constructor
      · intro h; simp at h
      · omega
    · constructor
      · omega
      · intro _; rfl

set_option maxHeartbeats 1000000 in
theorem searchN_any (l : List (List Int × Int)) (t : List Int) (ht : OctL t) (v : Value) (w : World) (hv : NamesW w v l) (hln : l.length ≤ 70368744177664)
    (hm : ∀ a b, a ≤ b → b < l.length → lessL (l.getD b ([], 0)).1 t = true → lessL (l.getD a ([], 0)).1 t = true) :
    Calls Try.prog 74 #[v, .string (strOfNums t), .func (.func 75) #[] #[]] w fun e w' => e = .returned (.tuple #[.int .i64 (rankN l t), .bool (thereN l t)]) ∧ Below w.heap.size w w' := by
  have HV : Hid (NamesW w v l) := hv
  obtain ⟨a, cap, rfl, hcap, hmax⟩ := hv.len
  have HM : Hid (∀ a b, a ≤ b → b < l.length → lessL (l.getD b ([], 0)).1 t = true → lessL (l.getD a ([], 0)).1 t = true) := hm
  clear hv hm
  unfold maxLen at hmax
  go_enter Try.func74, Try.ntmps74
  go_wp2
  go_loopw [9, 10] (fun i j wr => ∃ lo hi : Nat, lo ≤ hi ∧ hi ≤ l.length ∧ i = .int .i64 lo ∧ j = .int .i64 hi ∧ Hid (∀ k, k < lo → lessL (l.getD k ([], 0)).1 t = true) ∧ Hid (∀ k, hi ≤ k → k < l.length → lessL (l.getD k ([], 0)).1 t = false) ∧ Hid (Below w.heap.size w wr)) (fun i j _ => (intOf j).toNat - (intOf i).toNat)
  case atStart => exact ⟨0, l.length, Nat.zero_le _, Nat.le_refl _, rfl, rfl, (fun k hk => by omega), (fun k h1 h2 => by omega), Below.refl _ _⟩
  case round =>
    obtain ⟨lo, hi, hlh, hhl, rfl, rfl, HL, HH, up⟩ := hrel
    by_cases hlt : lo < hi
    · have hlt' : (lo : Int) < (hi : Int) := by omega
      obtain ⟨m, hmd⟩ : ∃ m : Nat, m = (lo + hi) / 2 := ⟨_, rfl⟩
      have HMD : Hid (m = (lo + hi) / 2) := hmd
      have em : ((lo : Int) + (hi : Int)) / 2 = (m : Int) := by omega
      have hml : m < l.length := by omega
      have hm1 : lo ≤ m := by omega
      have hm2 : m < hi := by omega
      clear hmd
      obtain ⟨b, off, cap', e, _, _, c0, c1, ho, _, hi'⟩ := (HV.out.up up.out).at m hml
      simp at e
      obtain ⟨rfl, rfl⟩ := e
      obtain ⟨y, hy⟩ : ∃ y, y = l.getD m ([], 0) := ⟨_, rfl⟩
      have HY : Hid (y = l.getD m ([], 0)) := hy
      rw [← hy] at c0 c1 ho hi'
      clear hy
      obtain ⟨ys, yi⟩ := y
      simp only at c0 c1 ho
      have HO : Hid (OctL ys) := ho
      clear ho
      by_cases d : lessL ys t = true
      · have hneg : cmpT ys t < 0 := (cmpT_neg _ _).2 d
        go_wp2_with fail
        refine (placeCmp_any ys t _ HO.out ht _).mono ?_
        rintro e w1 ⟨rfl, hb1⟩
        have up1 : Hid (Below w.heap.size w w1) := up_trans up.out hb1
        clear hb1
        go_wp2
        refine ⟨⟨m + 1, hi, by omega, hhl, by go_num, rfl, ?_, HH, up1⟩, by simp [intOf]; omega⟩
        intro k hk
        exact HM.out k m (by omega) hml (by rw [← HY.out]; exact d)
      · have hneg : ¬ cmpT ys t < 0 := fun h => d ((cmpT_neg _ _).1 h)
        go_wp2_with fail
        refine (placeCmp_any ys t _ HO.out ht _).mono ?_
        rintro e w1 ⟨rfl, hb1⟩
        have up1 : Hid (Below w.heap.size w w1) := up_trans up.out hb1
        clear hb1
        go_wp2
        refine ⟨⟨lo, m, by omega, by omega, rfl, by go_num, HL, ?_, up1⟩, by simp [intOf]; omega⟩
        intro k hk hkl
        cases hq : lessL (l.getD k ([], 0)).1 t with
        | false => rfl
        | true =>
          have := HM.out m k hk hkl hq
          rw [← HY.out] at this
          exact absurd this d
    · have hlt' : ¬ (lo : Int) < (hi : Int) := by omega
      obtain rfl : lo = hi := by omega
      have HR : Hid (rankN l t = lo) := rankOf_eq _ ([], 0) l lo hhl HL.out (fun h => HH.out lo (Nat.le_refl _) h)
      by_cases hn : lo < l.length
      · have hn' : (lo : Int) < (l.length : Int) := by omega
        obtain ⟨b, off, cap', e, _, _, c0, c1, ho, _, hi'⟩ := (HV.out.up up.out).at lo hn
        simp at e
        obtain ⟨rfl, rfl⟩ := e
        have HT : Hid (thereN l t = decide ((l.getD lo ([], 0)).1 = t)) := by
          unfold Hid thereN
          rw [HR.out, decide_eq_true hn]
          simp
        generalize l.getD lo ([], 0) = y at *
        obtain ⟨ys, yi⟩ := y
        simp only at c0 c1 ho HT
        have HO : Hid (OctL ys) := ho
        clear ho
        by_cases d : ys = t
        · have hz : cmpT ys t = 0 := (cmpT_zero _ _).2 d
          have HT2 : Hid (thereN l t = true) := HT.out.trans (decide_eq_true d)
          clear d
          go_wp2_with fail
          refine (placeCmp_any ys t _ HO.out ht _).mono ?_
          rintro e w1 ⟨rfl, hb1⟩
          have up1 : Hid (Below w.heap.size w w1) := up_trans up.out hb1
          clear hb1
          go_wp2
          go_ret2
          rw [HR.out, HT2.out]
          exact ⟨rfl, up1.out⟩
        · have hz : (cmpT ys t == 0) = false := by rw [beq_eq_false_iff_ne]; exact fun h => d ((cmpT_zero _ _).1 h)
          have HT2 : Hid (thereN l t = false) := HT.out.trans (decide_eq_false d)
          clear d
          go_wp2_with fail
          refine (placeCmp_any ys t _ HO.out ht _).mono ?_
          rintro e w1 ⟨rfl, hb1⟩
          have up1 : Hid (Below w.heap.size w w1) := up_trans up.out hb1
          clear hb1
          go_wp2
          go_ret2
          rw [HR.out, HT2.out]
          exact ⟨rfl, up1.out⟩
      · have hn' : ¬ (lo : Int) < (l.length : Int) := by omega
        have HT : Hid (thereN l t = false) := by
          unfold Hid thereN
          rw [HR.out, decide_eq_false hn]
          rfl
        go_wp2
        go_ret2
        rw [HR.out, HT.out]
        exact ⟨rfl, up.out⟩
set_option maxHeartbeats 1000000 in
theorem searchF_any (l : List (Int × List Int × Int)) (t : Int) (v : Value) (w : World) (hv : FilesW w v l) (hln : l.length ≤ 70368744177664)
    (hm : ∀ a b, a ≤ b → b < l.length → (l.getD b (0, [], 0)).1 < t → (l.getD a (0, [], 0)).1 < t) :
    Calls Try.prog 77 #[v, .int .i64 t, .func (.func 78) #[] #[]] w fun e w' => e = .returned (.tuple #[.int .i64 (rankF l t), .bool (thereF l t)]) ∧ Below w.heap.size w w' := by
  have HV : Hid (FilesW w v l) := hv
  obtain ⟨a, cap, rfl, hcap, hmax⟩ := hv.len
  have HM : Hid (∀ a b, a ≤ b → b < l.length → (l.getD b (0, [], 0)).1 < t → (l.getD a (0, [], 0)).1 < t) := hm
  clear hv hm
  unfold maxLen at hmax
  go_enter Try.func77, Try.ntmps77
  go_wp2
  go_loopw [9, 10] (fun i j wr => ∃ lo hi : Nat, lo ≤ hi ∧ hi ≤ l.length ∧ i = .int .i64 lo ∧ j = .int .i64 hi ∧ Hid (∀ k, k < lo → (l.getD k (0, [], 0)).1 < t) ∧ Hid (∀ k, hi ≤ k → k < l.length → t ≤ (l.getD k (0, [], 0)).1) ∧ Hid (Below w.heap.size w wr)) (fun i j _ => (intOf j).toNat - (intOf i).toNat)
  case atStart => exact ⟨0, l.length, Nat.zero_le _, Nat.le_refl _, rfl, rfl, (fun k hk => by omega), (fun k h1 h2 => by omega), Below.refl _ _⟩
  case round =>
    obtain ⟨lo, hi, hlh, hhl, rfl, rfl, HL, HH, up⟩ := hrel
    by_cases hlt : lo < hi
    · have hlt' : (lo : Int) < (hi : Int) := by omega
      obtain ⟨m, hmd⟩ : ∃ m : Nat, m = (lo + hi) / 2 := ⟨_, rfl⟩
      have HMD : Hid (m = (lo + hi) / 2) := hmd
      have em : ((lo : Int) + (hi : Int)) / 2 = (m : Int) := by omega
      have hml : m < l.length := by omega
      have hm1 : lo ≤ m := by omega
      have hm2 : m < hi := by omega
      clear hmd
      obtain ⟨b, off, cap', u, e, _, _, c0, c1, c2, ho, _, hi', _⟩ := (HV.out.up up.out).at m hml
      simp at e
      obtain ⟨rfl, rfl⟩ := e
      obtain ⟨y, hy⟩ : ∃ y, y = l.getD m (0, [], 0) := ⟨_, rfl⟩
      have HY : Hid (y = l.getD m (0, [], 0)) := hy
      rw [← hy] at c0 c2 ho hi'
      clear hy
      obtain ⟨ys, yd, yi⟩ := y
      simp only at c0 c2 hi'
      by_cases d : ys < t
      · have hneg : cmpI ys t < 0 := (cmpI_neg _ _).2 d
        go_wp2_with fail
        refine (numCmp_any ys t _ _ _).mono ?_
        rintro e w1 ⟨rfl, hb1⟩
        have up1 : Hid (Below w.heap.size w w1) := up_trans up.out hb1
        clear hb1
        go_wp2
        refine ⟨⟨m + 1, hi, by omega, hhl, by go_num, rfl, ?_, HH, up1⟩, by simp [intOf]; omega⟩
        intro k hk
        exact HM.out k m (by omega) hml (by rw [← HY.out]; exact d)
      · have hneg : ¬ cmpI ys t < 0 := fun h => d ((cmpI_neg _ _).1 h)
        go_wp2_with fail
        refine (numCmp_any ys t _ _ _).mono ?_
        rintro e w1 ⟨rfl, hb1⟩
        have up1 : Hid (Below w.heap.size w w1) := up_trans up.out hb1
        clear hb1
        go_wp2
        refine ⟨⟨lo, m, by omega, by omega, rfl, by go_num, HL, ?_, up1⟩, by simp [intOf]; omega⟩
        intro k hk hkl
        rcases (by omega : (l.getD k (0, [], 0)).1 < t ∨ t ≤ (l.getD k (0, [], 0)).1) with hq | hq
        · have := HM.out m k hk hkl hq
          rw [← HY.out] at this
          simp only at this
          omega
        · exact hq
    · have hlt' : ¬ (lo : Int) < (hi : Int) := by omega
      obtain rfl : lo = hi := by omega
      have HR : Hid (rankF l t = lo) := rankOf_eq _ (0, [], 0) l lo hhl (fun j hj => decide_eq_true (HL.out j hj)) (fun h => decide_eq_false (Int.not_lt.2 (HH.out lo (Nat.le_refl _) h)))
      by_cases hn : lo < l.length
      · have hn' : (lo : Int) < (l.length : Int) := by omega
        obtain ⟨b, off, cap', u, e, _, _, c0, c1, c2, ho, _, hi', _⟩ := (HV.out.up up.out).at lo hn
        simp at e
        obtain ⟨rfl, rfl⟩ := e
        have HT : Hid (thereF l t = decide ((l.getD lo (0, [], 0)).1 = t)) := by
          unfold Hid thereF
          rw [HR.out, decide_eq_true hn]
          simp
        generalize l.getD lo (0, [], 0) = y at *
        obtain ⟨ys, yd, yi⟩ := y
        simp only at c0 c2 hi' HT
        by_cases d : ys = t
        · have hz : cmpI ys t = 0 := (cmpI_zero _ _).2 d
          have HT2 : Hid (thereF l t = true) := HT.out.trans (decide_eq_true d)
          clear d
          go_wp2_with fail
          refine (numCmp_any ys t _ _ _).mono ?_
          rintro e w1 ⟨rfl, hb1⟩
          have up1 : Hid (Below w.heap.size w w1) := up_trans up.out hb1
          clear hb1
          go_wp2
          go_ret2
          rw [HR.out, HT2.out]
          exact ⟨rfl, up1.out⟩
        · have hz : (cmpI ys t == 0) = false := by rw [beq_eq_false_iff_ne]; exact fun h => d ((cmpI_zero _ _).1 h)
          have HT2 : Hid (thereF l t = false) := HT.out.trans (decide_eq_false d)
          clear d
          go_wp2_with fail
          refine (numCmp_any ys t _ _ _).mono ?_
          rintro e w1 ⟨rfl, hb1⟩
          have up1 : Hid (Below w.heap.size w w1) := up_trans up.out hb1
          clear hb1
          go_wp2
          go_ret2
          rw [HR.out, HT2.out]
          exact ⟨rfl, up1.out⟩
      · have hn' : ¬ (lo : Int) < (l.length : Int) := by omega
        have HT : Hid (thereF l t = false) := by
          unfold Hid thereF
          rw [HR.out, decide_eq_false hn]
          rfl
        go_wp2
        go_ret2
        rw [HR.out, HT.out]
        exact ⟨rfl, up.out⟩
end Go.Proofs.Ytoceddpjkodfkaa
