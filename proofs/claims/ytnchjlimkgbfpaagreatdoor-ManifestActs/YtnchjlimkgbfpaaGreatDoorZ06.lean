/- The texts FWith, GBase, P1, P2, P3, P4, in this order. -/
import Derived.Test.YtnchjlimkgbfpaaGreatDoorZ04
import Derived.Test.YtnchjlimkgbfpaaGreatDoorFNames
import Derived.Test.YtnchjlimkgbfpaaGreatDoorZ02
import Derived.Lib.Bytealg
import Derived.Maps.OwnSet

namespace Go.Proofs.YtnchjlimkgbfpaaGreatDoor
open Go.RowKit
set_option linter.unusedVariables false
set_option maxRecDepth 20000
set_option linter.unusedSimpArgs false
theorem OwnN.snoc {w0 w : World} {base : Nat} {e : TypeId} {v v0 : Value} {l : List (List Int × Int)} {p : List Int × Int} (h : OwnN w0 base e v0 l) (hp : OctL p.1 ∧ p.1.length ≤ 140737488355328 ∧ In64 p.2) (ho : OwnR w base e 2 v (l.map nrow ++ [nrow p])) : OwnN w base e v (l ++ [p]) := by
  refine ⟨?_, ?_⟩
  · intro q hq
    rcases List.mem_append.1 hq with h' | h'
    · exact h.1 q h'
    · simp at h'
      subst h'
      exact hp
  · rw [List.map_append]
    exact ho
end Go.Proofs.YtnchjlimkgbfpaaGreatDoor

namespace Go.Proofs.YtnchjlimkgbfpaaGreatDoor
open Go.RowKit
set_option linter.unusedVariables false
set_option maxRecDepth 20000
instance (w : World) : Inhabited (UpW w) := ⟨⟨w, Below.refl _ _⟩⟩
theorem lessL_same (x : Int) (r q : List Int) : lessL (x :: r) (x :: q) = lessL r q := by simp [lessL]
theorem lessL_self : ∀ l : List Int, lessL l l = false
  | [] => rfl
  | x :: r => by rw [lessL_same, lessL_self r]
theorem lessL_trans : ∀ (a b c : List Int), lessL a b = true → lessL b c = true → lessL a c = true
  | _, _, [], _, h => by cases ‹List Int› <;> simp [lessL] at h
  | _, [], _ :: _, h, _ => by simp [lessL] at h
  | [], _ :: _, _ :: _, _, _ => by simp [lessL]
  | x :: a, y :: b, z :: c, h1, h2 => by
    have ih := lessL_trans a b c
    simp only [lessL, Bool.or_eq_true, Bool.and_eq_true, decide_eq_true_eq] at h1 h2 ⊢
    rcases h1 with h1 | ⟨h1, h1'⟩ <;> rcases h2 with h2 | ⟨h2, h2'⟩
    · left; omega
    · left; omega
    · left; omega
    · right; exact ⟨by omega, ih h1' h2'⟩
def cmpI (a b : Int) : Int := if a < b then -1 else if b < a then 1 else 0
theorem cmpInt_any (a b : Int) (w : World) : Calls Tryz.prog 170 #[.int .i64 a, .int .i64 b] w fun e w' => e = .returned (.int .i64 (cmpI a b)) ∧ w' = w := by
  have nan : ∀ n w, Calls Tryz.prog 193 #[.int .i64 n] w fun e w' => e = .returned (.bool false) ∧ w' = w := by
    intro n w
    go_enter Tryz.func193, Tryz.ntmps193
    go_wp2
    go_ret
    exact ⟨by simp, rfl⟩
  unfold cmpI
  rcases Int.lt_trichotomy a b with c | c | c
  · rw [if_pos c]
    go_enter Tryz.func170, Tryz.ntmps170
    go_wp2_with fail
    refine (nan _ _).mono ?_
    rintro e w1 ⟨rfl, rfl⟩
    go_wp2_with fail
    refine (nan _ _).mono ?_
    rintro e w1 ⟨rfl, rfl⟩
    go_wp2
    go_ret
    exact ⟨rfl, rfl⟩
  · subst c
    rw [if_neg (by omega), if_neg (by omega)]
    go_enter Tryz.func170, Tryz.ntmps170
    go_wp2_with fail
    refine (nan _ _).mono ?_
    rintro e w1 ⟨rfl, rfl⟩
    go_wp2_with fail
    refine (nan _ _).mono ?_
    rintro e w1 ⟨rfl, rfl⟩
    go_wp2
    go_ret
    exact ⟨rfl, rfl⟩
  · have c1 : ¬ a < b := by omega
    rw [if_neg c1, if_pos c]
    go_enter Tryz.func170, Tryz.ntmps170
    go_wp2_with fail
    refine (nan _ _).mono ?_
    rintro e w1 ⟨rfl, rfl⟩
    go_wp2_with fail
    refine (nan _ _).mono ?_
    rintro e w1 ⟨rfl, rfl⟩
    go_wp2
    go_ret
    exact ⟨rfl, rfl⟩
theorem bytes_made (w : World) (t : List Int) (ht : ∀ x ∈ t, 0 ≤ x ∧ x ≤ 255) :
    ∃ cap w1, (convert 9 88 (.string (strOfNums t))).run Tryz.prog w = .ok (.slice (some ⟨w.heap.size, 0, none⟩) t.length cap) w1 ∧ t.length ≤ cap ∧ Below w.heap.size w w1 ∧
      (∀ i, i < t.length → w1.cell? ⟨w.heap.size, i, none⟩ = some (.int .u8 (t.getD i 0))) ∧ (∀ i, i < t.length → w1.frozen? ⟨w.heap.size, i, none⟩ = false) := by
  have kb := run_bytes_of_string (P := Tryz.prog) w 9 88 5 (strOfNums t) Tryz.underlying9 Tryz.underlying88 Tryz.underlying5
  rw [str_size] at kb
  have hge := grownCap_ge w t.length 0 5
  generalize grownCap w t.length 0 5 = cap at *
  refine ⟨cap, _, kb, hge, up_al (up_dr (Below.refl _ _)) _, fun i hi => ?_, fun i hi => ?_⟩
  · have := World.cell?_alloc_mark w.drew (bytesRow (strOfNums t) cap) 5 ((bytesRow (strOfNums t) cap).size, (bytesRow (strOfNums t) cap).size + 1) i
    refine this.trans ?_
    have hsi : i < (strOfNums t).size := by rw [str_size]; exact hi
    refine (bytesRow_at (strOfNums t) cap i hsi).trans ?_
    have e := str_at t ht i hsi
    exact congrArg (fun z => some (Value.int .u8 z)) e
  · refine (World.frozen?_alloc_mark w.drew _ 5 _ _ i).trans ?_
    have : i < (bytesRow (strOfNums t) cap).size := by
      have e : (bytesRow (strOfNums t) cap).size = t.length + (cap - t.length) := by
        unfold bytesRow
        rw [Array.size_append, Array.size_map, Array.size_replicate, str_size t]
        have := str_size t
        have e2 : (strOfNums t).data.size = t.length := this
        rw [e2]
      omega
    simp
    omega
end Go.Proofs.YtnchjlimkgbfpaaGreatDoor

namespace Go.Proofs.YtnchjlimkgbfpaaGreatDoor
open Go.RowKit
set_option linter.unusedVariables false
set_option maxRecDepth 20000
set_option maxHeartbeats 400000 in
theorem nameMay_any (s : List Int) (hs : OctL s) (hl : s.length ≤ 140737488355328) (w : World) :
    Calls Tryz.prog 152 #[.string (strOfNums s)] w fun e w' => e = .returned (.bool (mayOf s)) ∧ Below w.heap.size w w' := by
  have hsz : (strOfNums s).size = s.length := by simp [strOfNums, ByteArray.size]
  go_enter Tryz.func152, Tryz.ntmps152
  by_cases c1 : s.length < 1
  · have HM : Hid (mayOf s = false) := by unfold Hid mayOf; simp; omega
    have c1' : (s.length : Int) < 1 := by omega
    go_wp2
    go_ret
    rw [HM.out]
    exact ⟨rfl, Below.refl _ _⟩
  · have c1' : ¬ (s.length : Int) < 1 := by omega
    by_cases c2 : 32 < s.length
    · have HM : Hid (mayOf s = false) := by unfold Hid mayOf; simp; omega
      have c2' : (32 : Int) < (s.length : Int) := by omega
      go_wp2
      go_ret
      rw [HM.out]
      exact ⟨rfl, Below.refl _ _⟩
    · have c2' : ¬ (32 : Int) < (s.length : Int) := by omega
      obtain ⟨cap, w1, kb, hcap, hb1, hc1, hf1⟩ := bytes_made w s hs
      have HC : Hid (∀ i, i < s.length → w1.cell? ⟨w.heap.size, i, none⟩ = some (.int .u8 (s.getD i 0))) := hc1
      have HB : Hid (Below w.heap.size w w1) := hb1
      clear hc1 hb1 hf1
      go_wp2
      go_loopw [16] (fun i wr => ∃ k : Nat, k ≤ s.length ∧ i = .int .i64 k ∧ Hid (∀ x ∈ s.take k, 33 ≤ x ∧ x ≤ 126) ∧ wr = w1) (fun i _ => s.length - (intOf i).toNat)
      case atStart => exact ⟨0, Nat.zero_le _, rfl, (fun x hx => by simp at hx), rfl⟩
      case round =>
        obtain ⟨k, hk, rfl, HK, rfl⟩ := hrel
        by_cases hlt : k < s.length
        · have hlt' : (k : Int) < (s.length : Int) := by omega
          have hck := HC.out k hlt
          have hyb : 0 ≤ s.getD k 0 ∧ s.getD k 0 ≤ 255 := hs _ (by simp [List.getD, hlt])
          have hmem : s.getD k 0 ∈ s := by simp [List.getD, hlt]
          have HT : Hid (s.take (k + 1) = s.take k ++ [s.getD k 0]) := take_snoc s k 0 hlt
          have HM : Hid (¬ (33 ≤ s.getD k 0 ∧ s.getD k 0 ≤ 126) → mayOf s = false) := by
            intro hn
            unfold mayOf
            rw [Bool.and_eq_false_iff]
            refine .inr ?_
            rw [List.all_eq_false]
            refine ⟨s.getD k 0, hmem, fun hc => hn ?_⟩
            rw [Bool.and_eq_true, decide_eq_true_eq, decide_eq_true_eq] at hc
            exact hc
          clear hmem
          generalize s.getD k 0 = y at *
          by_cases d1 : y < 33
          · have HM2 : Hid (mayOf s = false) := HM.out (by omega)
            go_wp2
            go_ret
            rw [HM2.out]
            exact ⟨rfl, HB.out⟩
          · by_cases d2 : 126 < y
            · have HM2 : Hid (mayOf s = false) := HM.out (by omega)
              go_wp2
              go_ret
              rw [HM2.out]
              exact ⟨rfl, HB.out⟩
            · have HK2 : Hid (∀ x ∈ s.take (k + 1), 33 ≤ x ∧ x ≤ 126) := by
                rw [HT.out]
                intro x hx
                rcases List.mem_append.1 hx with h | h
                · exact HK.out x h
                · simp at h
                  subst h
                  omega
              go_wp2
              exact ⟨⟨k + 1, by omega, by go_num, HK2, trivial⟩, by simp [intOf]; omega⟩
        · have hlt' : ¬ (k : Int) < (s.length : Int) := by omega
          obtain rfl : k = s.length := by omega
          have HM : Hid (mayOf s = true) := by
            unfold Hid mayOf
            have h := HK.out
            rw [List.take_length] at h
            simp only [Bool.and_eq_true, decide_eq_true_eq, List.all_eq_true]
            exact ⟨⟨by omega, by omega⟩, h⟩
          go_wp2
          go_ret
          rw [HM.out]
          exact ⟨rfl, HB.out⟩
set_option maxHeartbeats 400000 in
theorem used_any (l : List (Int × List Int × Int)) (vf : Value) (w : World) (hf : FilesW w vf l) (hn : l.length ≤ 256) :
    Calls Tryz.prog 151 #[vf] w fun e w' => e = .returned (.int .i64 (usedOf l)) ∧ Below w.heap.size w w' := by
  have HV : Hid (FilesW w vf l) := hf
  obtain ⟨a, cap, rfl, hcap, hmax⟩ := hf.len
  have hd := hf.data
  clear hf
  unfold maxLen at hmax
  have HU : Hid (∀ k, usedOf (l.take k) ≤ 256 * 140737488355328) := by
    intro k
    have := used_le (l.take k) (fun f hf => hd f (List.mem_of_mem_take hf))
    have : ((l.take k).length : Int) ≤ 256 := by rw [List.length_take]; omega
    omega
  clear hd
  go_enter Tryz.func151, Tryz.ntmps151
  go_wp2
  go_loopw [3, 8] (fun n i wr => ∃ k : Nat, k ≤ l.length ∧ i = .int .i64 k ∧ n = .int .i64 (usedOf (l.take k)) ∧ Hid (Below w.heap.size w wr)) (fun _ i _ => l.length - (intOf i).toNat)
  case atStart => exact ⟨0, Nat.zero_le _, rfl, rfl, Below.refl _ _⟩
  case round =>
    obtain ⟨k, hk, rfl, rfl, up⟩ := hrel
    by_cases hlt : k < l.length
    · have hlt' : (k : Int) < (l.length : Int) := by omega
      obtain ⟨b, off, cap', u, e, _, _, c0, c1, c2, ho, hdl, _⟩ := (HV.out.up up.out).at k hlt
      simp at e
      obtain ⟨rfl, rfl⟩ := e
      have HT : Hid (usedOf (l.take (k + 1)) = usedOf (l.take k) + ((l.getD k (0, [], 0)).2.1.length : Int)) := used_take l k hlt
      have hp := used_pos (l.take k)
      have hle := HU.out k
      generalize l.getD k (0, [], 0) = y at *
      obtain ⟨yi, yd, ys⟩ := y
      simp only at c0 c1 c2 ho hdl HT
      obtain ⟨au, capu, rfl, _⟩ := ho.slice
      generalize usedOf (l.take k) = n at *
      go_wp2
      refine ⟨⟨k + 1, by omega, by go_num, by rw [HT.out], ?_⟩, by simp [intOf]; omega⟩
      have hsz := up.out.size
      repeat (first | exact up.out | refine up_al ?_ _ | refine Below.setCell ?_ (by simp; omega) _)
    · have hlt' : ¬ (k : Int) < (l.length : Int) := by omega
      obtain rfl : k = l.length := by omega
      rw [List.take_length]
      go_wp2
      go_ret
      exact ⟨rfl, up.out⟩
end Go.Proofs.YtnchjlimkgbfpaaGreatDoor

namespace Go.Proofs.YtnchjlimkgbfpaaGreatDoor
open Go.RowKit
set_option linter.unusedVariables false
set_option maxRecDepth 20000
def rankOf {A : Type} (p : A → Bool) (l : List A) : Nat := (l.takeWhile p).length
theorem rankOf_eq {A : Type} (p : A → Bool) (d : A) : ∀ (l : List A) (i : Nat), i ≤ l.length → (∀ j, j < i → p (l.getD j d) = true) → (i < l.length → p (l.getD i d) = false) → rankOf p l = i
  | [], i, h, _, _ => by simp at h; subst h; rfl
  | x :: l, 0, _, _, h2 => by
    have := h2 (by simp)
    simp at this
    simp [rankOf, this]
  | x :: l, i + 1, h, h1, h2 => by
    have h0 := h1 0 (by omega)
    simp at h0
    have ih := rankOf_eq p d l i (by simpa using h) (fun j hj => by have := h1 (j + 1) (by omega); simpa using this) (fun hj => by have := h2 (by simpa using hj); simpa using this)
    unfold rankOf at ih ⊢
    rw [List.takeWhile_cons, h0]
    simp [ih]
def rankN (l : List (List Int × Int)) (t : List Int) : Nat := rankOf (fun p => lessL p.1 t) l
def thereN (l : List (List Int × Int)) (t : List Int) : Bool := decide (rankN l t < l.length) && decide ((l.getD (rankN l t) ([], 0)).1 = t)
def rankF (l : List (Int × List Int × Int)) (id : Int) : Nat := rankOf (fun f => decide (f.1 < id)) l
def thereF (l : List (Int × List Int × Int)) (id : Int) : Bool := decide (rankF l id < l.length) && decide ((l.getD (rankF l id) (0, [], 0)).1 = id)
theorem numCmp_any (a id : Int) (d y : Value) (w : World) :
    Calls Tryz.prog 169 #[.agg #[.int .i64 a, d, y], .int .i64 id] w fun e w' => e = .returned (.int .i64 (cmpI a id)) ∧ Below w.heap.size w w' := by
  go_enter Tryz.func169, Tryz.ntmps169
  go_wp2_with fail
  refine (cmpInt_any a id _).mono ?_
  rintro e w1 ⟨rfl, rfl⟩
  go_wp2
  go_ret
  exact ⟨rfl, up_al (Below.refl _ _) _⟩
theorem cmpI_neg (a b : Int) : cmpI a b < 0 ↔ a < b := by
  unfold cmpI
  split
  · simp_all
  · split <;> simp_all
theorem cmpI_zero (a b : Int) : cmpI a b = 0 ↔ a = b := by
  unfold cmpI
  split
  · constructor
    · intro h; simp at h
    · omega
  · split
    · constructor
      · intro h; simp at h
      · omega
    · constructor
      · omega
      · intro _; rfl
set_option maxHeartbeats 1000000 in
theorem searchF_any (l : List (Int × List Int × Int)) (t : Int) (v : Value) (w : World) (hv : FilesW w v l) (hln : l.length ≤ 70368744177664)
    (hm : ∀ a b, a ≤ b → b < l.length → (l.getD b (0, [], 0)).1 < t → (l.getD a (0, [], 0)).1 < t) :
    Calls Tryz.prog 168 #[v, .int .i64 t, .func (.func 169) #[] #[]] w fun e w' => e = .returned (.tuple #[.int .i64 (rankF l t), .bool (thereF l t)]) ∧ Below w.heap.size w w' := by
  have HV : Hid (FilesW w v l) := hv
  obtain ⟨a, cap, rfl, hcap, hmax⟩ := hv.len
  have HM : Hid (∀ a b, a ≤ b → b < l.length → (l.getD b (0, [], 0)).1 < t → (l.getD a (0, [], 0)).1 < t) := hm
  clear hv hm
  unfold maxLen at hmax
  go_enter Tryz.func168, Tryz.ntmps168
  go_wp2
  go_loopw [9, 10] (fun i j wr => ∃ lo hi : Nat, lo ≤ hi ∧ hi ≤ l.length ∧ i = .int .i64 lo ∧ j = .int .i64 hi ∧ Hid (∀ k, k < lo → (l.getD k (0, [], 0)).1 < t) ∧ Hid (∀ k, hi ≤ k → k < l.length → t ≤ (l.getD k (0, [], 0)).1) ∧ Hid (Below w.heap.size w wr)) (fun i j _ => (intOf j).toNat - (intOf i).toNat)
  case atStart => exact ⟨0, l.length, Nat.zero_le _, Nat.le_refl _, rfl, rfl, (fun k hk => by omega), (fun k h1 h2 => by omega), Below.refl _ _⟩
  case round =>
    obtain ⟨lo, hi, hlh, hhl, rfl, rfl, HL, HH, up⟩ := hrel
    by_cases hlt : lo < hi
    · have hlt' : (lo : Int) < (hi : Int) := by omega
      obtain ⟨m, hmd⟩ : ∃ m : Nat, m = (lo + hi) / 2 := ⟨_, rfl⟩
      have HMD : Hid (m = (lo + hi) / 2) := hmd
      have em : ((lo : Int) + (hi : Int)) / 2 = (m : Int) := by omega
      have hml : m < l.length := by omega
      have hm1 : lo ≤ m := by omega
      have hm2 : m < hi := by omega
      clear hmd
      obtain ⟨b, off, cap', u, e, _, _, c0, c1, c2, ho, _, hi', _⟩ := (HV.out.up up.out).at m hml
      simp at e
      obtain ⟨rfl, rfl⟩ := e
      obtain ⟨y, hy⟩ : ∃ y, y = l.getD m (0, [], 0) := ⟨_, rfl⟩
      have HY : Hid (y = l.getD m (0, [], 0)) := hy
      rw [← hy] at c0 c2 ho hi'
      clear hy
      obtain ⟨ys, yd, yi⟩ := y
      simp only at c0 c2 hi'
      by_cases d : ys < t
      · have hneg : cmpI ys t < 0 := (cmpI_neg _ _).2 d
        go_wp2_with fail
        refine (numCmp_any ys t _ _ _).mono ?_
        rintro e w1 ⟨rfl, hb1⟩
        have up1 : Hid (Below w.heap.size w w1) := up_trans up.out hb1
        clear hb1
        go_wp2
        refine ⟨⟨m + 1, hi, by omega, hhl, by go_num, rfl, ?_, HH, up1⟩, by simp [intOf]; omega⟩
        intro k hk
        exact HM.out k m (by omega) hml (by rw [← HY.out]; exact d)
      · have hneg : ¬ cmpI ys t < 0 := fun h => d ((cmpI_neg _ _).1 h)
        go_wp2_with fail
        refine (numCmp_any ys t _ _ _).mono ?_
        rintro e w1 ⟨rfl, hb1⟩
        have up1 : Hid (Below w.heap.size w w1) := up_trans up.out hb1
        clear hb1
        go_wp2
        refine ⟨⟨lo, m, by omega, by omega, rfl, by go_num, HL, ?_, up1⟩, by simp [intOf]; omega⟩
        intro k hk hkl
        rcases (by omega : (l.getD k (0, [], 0)).1 < t ∨ t ≤ (l.getD k (0, [], 0)).1) with hq | hq
        · have := HM.out m k hk hkl hq
          rw [← HY.out] at this
          simp only at this
          omega
        · exact hq
    · have hlt' : ¬ (lo : Int) < (hi : Int) := by omega
      obtain rfl : lo = hi := by omega
      have HR : Hid (rankF l t = lo) := rankOf_eq _ (0, [], 0) l lo hhl (fun j hj => decide_eq_true (HL.out j hj)) (fun h => decide_eq_false (Int.not_lt.2 (HH.out lo (Nat.le_refl _) h)))
      by_cases hn : lo < l.length
      · have hn' : (lo : Int) < (l.length : Int) := by omega
        obtain ⟨b, off, cap', u, e, _, _, c0, c1, c2, ho, _, hi', _⟩ := (HV.out.up up.out).at lo hn
        simp at e
        obtain ⟨rfl, rfl⟩ := e
        have HT : Hid (thereF l t = decide ((l.getD lo (0, [], 0)).1 = t)) := by
          unfold Hid thereF
          rw [HR.out, decide_eq_true hn]
          simp
        generalize l.getD lo (0, [], 0) = y at *
        obtain ⟨ys, yd, yi⟩ := y
        simp only at c0 c2 hi' HT
        by_cases d : ys = t
        · have hz : cmpI ys t = 0 := (cmpI_zero _ _).2 d
          have HT2 : Hid (thereF l t = true) := HT.out.trans (decide_eq_true d)
          clear d
          go_wp2_with fail
          refine (numCmp_any ys t _ _ _).mono ?_
          rintro e w1 ⟨rfl, hb1⟩
          have up1 : Hid (Below w.heap.size w w1) := up_trans up.out hb1
          clear hb1
          go_wp2
          go_ret2
          rw [HR.out, HT2.out]
          exact ⟨rfl, up1.out⟩
        · have hz : (cmpI ys t == 0) = false := by rw [beq_eq_false_iff_ne]; exact fun h => d ((cmpI_zero _ _).1 h)
          have HT2 : Hid (thereF l t = false) := HT.out.trans (decide_eq_false d)
          clear d
          go_wp2_with fail
          refine (numCmp_any ys t _ _ _).mono ?_
          rintro e w1 ⟨rfl, hb1⟩
          have up1 : Hid (Below w.heap.size w w1) := up_trans up.out hb1
          clear hb1
          go_wp2
          go_ret2
          rw [HR.out, HT2.out]
          exact ⟨rfl, up1.out⟩
      · have hn' : ¬ (lo : Int) < (l.length : Int) := by omega
        have HT : Hid (thereF l t = false) := by
          unfold Hid thereF
          rw [HR.out, decide_eq_false hn]
          rfl
        go_wp2
        go_ret2
        rw [HR.out, HT.out]
        exact ⟨rfl, up.out⟩
end Go.Proofs.YtnchjlimkgbfpaaGreatDoor

namespace Go.Proofs.YtnchjlimkgbfpaaGreatDoor
open Go.RowKit
set_option linter.unusedVariables false
set_option maxRecDepth 20000
def RiseN (l : List (List Int × Int)) : Prop := ∀ a b, a < b → b < l.length → lessL (l.getD a ([], 0)).1 (l.getD b ([], 0)).1 = true
def RiseF (l : List (Int × List Int × Int)) : Prop := ∀ a b, a < b → b < l.length → (l.getD a (0, [], 0)).1 < (l.getD b (0, [], 0)).1
theorem RiseN.mono {l : List (List Int × Int)} (h : RiseN l) (t : List Int) : ∀ a b, a ≤ b → b < l.length → lessL (l.getD b ([], 0)).1 t = true → lessL (l.getD a ([], 0)).1 t = true := by
  intro a b hab hb hl
  rcases Nat.lt_or_ge a b with c | c
  · exact lessL_trans _ _ _ (h a b c hb) hl
  · obtain rfl : a = b := by omega
    exact hl
theorem RiseF.mono {l : List (Int × List Int × Int)} (h : RiseF l) (t : Int) : ∀ a b, a ≤ b → b < l.length → (l.getD b (0, [], 0)).1 < t → (l.getD a (0, [], 0)).1 < t := by
  intro a b hab hb hl
  rcases Nat.lt_or_ge a b with c | c
  · have := h a b c hb
    omega
  · obtain rfl : a = b := by omega
    exact hl
theorem numbered_any (l : List (Int × List Int × Int)) (t : Int) (v : Value) (w : World) (hv : FilesW w v l) (hln : l.length ≤ 70368744177664) (hr : RiseF l) :
    Calls Tryz.prog 131 #[v, .int .i64 t] w fun e w' => e = .returned (.tuple #[.int .i64 (rankF l t), .bool (thereF l t)]) ∧ Below w.heap.size w w' := by
  have h := searchF_any l t v w hv hln (hr.mono t)
  go_enter Tryz.func131, Tryz.ntmps131
  go_wp2_with fail
  refine h.mono ?_
  rintro e w1 ⟨rfl, hb1⟩
  have up1 : Hid (Below w.heap.size w w1) := hb1
  clear hb1 h
  go_wp2
  go_ret2
  exact ⟨rfl, up1.out⟩
end Go.Proofs.YtnchjlimkgbfpaaGreatDoor

namespace Go.Proofs.YtnchjlimkgbfpaaGreatDoor
open Go.RowKit
set_option linter.unusedVariables false
set_option maxRecDepth 20000
def addId (ids : List Int) (x : Int) : List Int := if ids.contains x then ids else ids ++ [x]
def idsOf (l : List (List Int × Int)) : List Int := (l.map (·.2)).foldl addId []
theorem idsOf_snoc (l : List (List Int × Int)) (p : List Int × Int) : idsOf (l ++ [p]) = addId (idsOf l) p.2 := by
  simp [idsOf, List.foldl_append]
theorem addId_len (ids : List Int) (x : Int) : (addId ids x).length ≤ ids.length + 1 := by
  unfold addId
  split <;> simp
theorem idsOf_len (l : List (List Int × Int)) : (idsOf l).length ≤ l.length := by
  unfold idsOf
  have h : ∀ (m : List Int) (acc : List Int), (m.foldl addId acc).length ≤ acc.length + m.length := by
    intro m
    induction m with
    | nil => intro acc; simp
    | cons x m ih =>
      intro acc
      have h1 := ih (addId acc x)
      have h2 := addId_len acc x
      simp only [List.foldl_cons, List.length_cons]
      omega
  have := h (l.map (·.2)) []
  simpa using this
def SetW (w : World) (b : Nat) (ids : List Int) : Prop := ∃ D : DataW Unit, w.ownsMap Tryz.prog 3 unitElem b ids.length D ∧ Maps.Tidy D ∧ Maps.size D = ids.length ∧ ∀ x, Maps.has D (.int .i64 x) = ids.contains x
theorem own_tight {w : World} {b n : Nat} {D : DataW Unit} (h : w.ownsMap Tryz.prog 3 unitElem b n D) : w.ownsMap Tryz.prog 3 unitElem b (Maps.size D) D := by
  obtain ⟨es, clock, hb, F, hs, rfl⟩ := h
  exact ⟨es, clock, hb, F, by simp [Maps.size, length_sorted], rfl⟩
theorem wf_i64_of {x : Int} (h : In64 x) : (Lit.int .i64 x).wf = true := by
  refine WalkArith.wf_i64 ?_
  exact h
theorem SetW.made (w : World) : SetW (w.alloc (.map #[] 0)) w.heap.size [] :=
  ⟨.map [], World.ownsMap_made w Tryz.prog 3 unitElem, Maps.tidy_empty, rfl, fun x => rfl⟩
theorem SetW.lt {w : World} {b : Nat} {ids : List Int} (h : SetW w b ids) : b < w.heap.size := by
  obtain ⟨D, h1, _⟩ := h
  exact h1.lt
theorem SetW.kept {w w' : World} {b : Nat} {ids : List Int} {r : Option Nat} (h : SetW w b ids) (hg : w.grownBy w' r) (hne : some b ≠ r) : SetW w' b ids := by
  obtain ⟨D, h1, h2⟩ := h
  exact ⟨D, h1.kept hg hne, h2⟩
theorem SetW.up {w w' : World} {b : Nat} {ids : List Int} (h : SetW w b ids) (hb : Below w.heap.size w w') : SetW w' b ids := by
  obtain ⟨D, ⟨es, clock, hh, r⟩, h2⟩ := h
  exact ⟨D, ⟨es, clock, (hb.block b (Array.getElem?_eq_some_iff.1 hh).1).trans hh, r⟩, h2⟩
theorem SetW.put {w' : World} {b : Nat} {ids : List Int} {x : Int} {D : DataW Unit} (hx : In64 x) (h2 : Maps.Tidy D) (h3 : Maps.size D = ids.length) (h4 : ∀ y, Maps.has D (.int .i64 y) = ids.contains y)
    (h : w'.ownsMap Tryz.prog 3 unitElem b (ids.length + 1) (D.put (.int .i64 x) (.agg []))) : SetW w' b (addId ids x) := by
  have hk : WideAt.IsKeyLit (.int .i64 x) := trivial
  have hsz : Maps.size (D.put (.int .i64 x) (.agg [])) = (addId ids x).length := by
    rw [Maps.size_put h2, h4 x, h3]
    unfold addId
    split <;> simp
  refine ⟨D.put (.int .i64 x) (.agg []), ?_, h2.put hk _, hsz, fun y => ?_⟩
  · have := own_tight h
    rw [hsz] at this
    exact this
  · by_cases e : y = x
    · subst e
      rw [Maps.has_put_same h2.isMap hk]
      unfold addId
      split <;> simp_all
    · rw [Maps.has_put_other (by intro q; injection q with _ q; exact e q), h4 y]
      unfold addId
      split
      · rfl
      · simp [e]
theorem wpList_set_put (w : World) {ops : Array Oper} {rest : List Oper} {o : Oper} {a : Act} {Q : Exit → Act → World → Prop} (hgd : o.guard = none) (m x v : Operand) (hop : o.op = Op.mapUpdate 233 m x v)
    (b : Nat) (ids : List Int) (hm : a.eval m = .map (some b)) (hs : SetW w b ids) (hn : ids.length < maxLen) (id : Int) (hid : In64 id) (hx : a.eval x = .int .i64 id) (hv : a.eval v = .agg #[])
    (hK : ∀ w', SetW w' b (addId ids id) → w.grownBy w' (some b) → wpList Tryz.prog ops Q rest (a.put o.dst undef) w') : wpList Tryz.prog ops Q (o :: rest) a w := by
  obtain ⟨D, h1, h2, h3, h4⟩ := hs
  refine wpList_mapUpdate_own w hgd m x v 233 hop 3 131 (Maps.int_keyed Tryz.underlying3) Tryz.underlying233 unitElem b ids.length D hm h1 hn _ _ (.int .i64 id) hx hv (Maps.keyOf_int_mk Tryz.underlying3 (wf_i64_of hid)) (.agg []) [] unitElem_mk ?_
  intro w' r1 r2
  exact hK w' (SetW.put hid h2 h3 h4 r1) r2
def allN (ls : List (Value × List (List Int × Int))) : List (List Int × Int) := (ls.map (·.2)).flatten
theorem allN_snoc (ls : List (Value × List (List Int × Int))) (k : Nat) (h : k < ls.length) (d : Value × List (List Int × Int)) : allN (ls.take (k + 1)) = allN (ls.take k) ++ (ls.getD k d).2 := by
  rw [take_snoc ls k d h]
  simp [allN]
theorem allN_len (ls : List (Value × List (List Int × Int))) (k : Nat) (h : k < ls.length) (d : Value × List (List Int × Int)) : (allN (ls.take k)).length + (ls.getD k d).2.length ≤ (allN ls).length := by
  have e := allN_snoc ls k h d
  have e2 : allN ls = allN (ls.take (k + 1)) ++ allN (ls.drop (k + 1)) := by
    unfold allN
    rw [← List.flatten_append, ← List.map_append, List.take_append_drop]
  rw [e2, e, List.length_append, List.length_append]
  omega
set_option maxHeartbeats 1000000 in
theorem numbers_any (ls : List (Value × List (List Int × Int))) (B cap : Nat) (w : World) (hne : ls.length ≤ 2) (hc : ∀ j, j < ls.length → w.cell? ⟨B, j, none⟩ = some (ls.getD j (.slice none 0 0, [])).1)
    (hN : ∀ j, j < ls.length → NamesW w (ls.getD j (.slice none 0 0, [])).1 (ls.getD j (.slice none 0 0, [])).2) (htot : (allN ls).length ≤ maxLen) :
    Calls Tryz.prog 148 #[.slice (some ⟨B, 0, none⟩) ls.length cap] w fun e w' => e = .returned (.map (some w.heap.size)) ∧ SetW w' w.heap.size (idsOf (allN ls)) ∧ Below w.heap.size w w' := by
  have HC : Hid (∀ j, j < ls.length → w.cell? ⟨B, j, none⟩ = some (ls.getD j (.slice none 0 0, [])).1) := hc
  have HN : Hid (∀ j, j < ls.length → NamesW w (ls.getD j (.slice none 0 0, [])).1 (ls.getD j (.slice none 0 0, [])).2) := hN
  clear hc hN
  unfold maxLen at htot
  have hmm := @run_makeMap Tryz.prog
  go_enter Tryz.func148, Tryz.ntmps148
  go_wp2
  go_loopw [11] (fun i wr => ∃ k : Nat, k ≤ ls.length ∧ i = .int .i64 k ∧ Hid (SetW wr w.heap.size (idsOf (allN (ls.take k)))) ∧ Hid (Below w.heap.size w wr)) (fun i _ => ls.length - (intOf i).toNat)
  case atStart => exact ⟨0, Nat.zero_le _, rfl, SetW.made w, up_al (Below.refl _ _) _⟩
  case round =>
    obtain ⟨k, hk, rfl, HS, up⟩ := hrel
    by_cases hlt : k < ls.length
    · have hlt' : (k : Int) < (ls.length : Int) := by omega
      have ck := HC.out k hlt
      have ck' := (up.out.cell (p := ⟨B, k, none⟩) (World.block_lt_of_cell? w _ ck)).trans ck
      have HNk : Hid (NamesW w (ls.getD k (.slice none 0 0, [])).1 (ls.getD k (.slice none 0 0, [])).2) := HN.out k hlt
      have HSn : Hid (allN (ls.take (k + 1)) = allN (ls.take k) ++ (ls.getD k (.slice none 0 0, [])).2) := allN_snoc ls k hlt _
      have hlen := allN_len ls k hlt (.slice none 0 0, [])
      clear ck
      generalize ls.getD k (.slice none 0 0, []) = y at *
      obtain ⟨yv, l⟩ := y
      simp only at ck' HNk HSn hlen
      obtain ⟨a, cap2, rfl, hcap2, hmax2⟩ := HNk.out.len
      generalize allN (ls.take k) = done at *
      go_wp2
      go_loopw [17] (fun i wr => ∃ j : Nat, j ≤ l.length ∧ i = .int .i64 j ∧ Hid (SetW wr w.heap.size (idsOf (done ++ l.take j))) ∧ Hid (Below w.heap.size w wr)) (fun i _ => l.length - (intOf i).toNat)
      case atStart => exact ⟨0, Nat.zero_le _, rfl, by rw [List.take_zero, List.append_nil]; exact HS.out, up.out⟩
      case round =>
        clear HS up ck'
        obtain ⟨j, hj, rfl, HS, up⟩ := hrel
        by_cases hjl : j < l.length
        · have hjl' : (j : Int) < (l.length : Int) := by omega
          obtain ⟨b, off, cap', e, _, _, c0, c1, ho, _, hi'⟩ := (HNk.out.up up.out).at j hjl
          simp at e
          obtain ⟨rfl, rfl⟩ := e
          have HT : Hid (l.take (j + 1) = l.take j ++ [l.getD j ([], 0)]) := take_snoc l j _ hjl
          have HI : Hid (In64 (l.getD j ([], 0)).2) := hi'
          have HSl : Hid ((idsOf (done ++ l.take j)).length < maxLen) := by
            have := idsOf_len (done ++ l.take j)
            rw [List.length_append, List.length_take] at this
            unfold Hid maxLen
            omega
          have hws := SetW.lt HS.out
          generalize l.getD j ([], 0) = y at *
          obtain ⟨ys, yi⟩ := y
          simp only at c0 c1 HI HT
          clear ho hi'
          have HG : Hid (SetW wr w.heap.size (idsOf (done ++ l.take j))) := HS.out
          have HSet : Hid (SetW (wr.alloc (.cells #[.string (strOfNums ys), .int .i64 yi] 146)) w.heap.size (idsOf (done ++ l.take j))) := HS.out.up (up_al (Below.refl _ _) _)
          have HUp : Hid (Below w.heap.size w (wr.alloc (.cells #[.string (strOfNums ys), .int .i64 yi] 146))) := up_al up.out _
          go_wp2_with (at_mapUpdate; refine wpList_set_put _ rfl _ _ _ rfl w.heap.size _ rfl HSet.out HSl.out yi HI.out rfl rfl ?_; intro w1 hset1 hgrow1)
          have hset2 : SetW w1 w.heap.size (idsOf (done ++ l.take (j + 1))) := by
            rw [HT.out, ← List.append_assoc, idsOf_snoc]
            exact hset1
          exact ⟨⟨j + 1, by omega, by go_num, hset2, HUp.out.grown hgrow1 HUp.out.size (fun k hk => by injection hk with hk; omega)⟩, by simp [intOf]; omega⟩
        · have hjl' : ¬ (j : Int) < (l.length : Int) := by omega
          obtain rfl : j = l.length := by omega
          have HS2 : Hid (SetW wr w.heap.size (idsOf (allN (ls.take (k + 1))))) := by
            unfold Hid
            rw [HSn.out, ← List.take_length (l := l)]
            exact HS.out
          go_wp2
          exact ⟨⟨k + 1, by omega, by go_num, HS2, up⟩, by simp [intOf]; omega⟩
    · have hlt' : ¬ (k : Int) < (ls.length : Int) := by omega
      obtain rfl : k = ls.length := by omega
      have HS2 : Hid (SetW wr w.heap.size (idsOf (allN ls))) := by
        have := HS.out
        rw [List.take_length] at this
        exact this
      go_wp2
      go_ret
      exact ⟨rfl, HS2.out, up.out⟩
end Go.Proofs.YtnchjlimkgbfpaaGreatDoor
