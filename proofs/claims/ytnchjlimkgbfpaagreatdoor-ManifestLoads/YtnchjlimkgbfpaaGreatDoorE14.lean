/- The texts FWith, GBase, P1, P2, P3, in this order. -/
import Derived.Test.YtnchjlimkgbfpaaGreatDoorE12
import Derived.Test.YtnchjlimkgbfpaaGreatDoorFNames
import Derived.Test.YtnchjlimkgbfpaaGreatDoorE02
import Derived.Lib.Bytealg
import Derived.Maps.OwnSet

namespace Go.Proofs.YtnchjlimkgbfpaaGreatDoor
open Go.RowKit
set_option linter.unusedVariables false
set_option maxRecDepth 20000
set_option linter.unusedSimpArgs false
theorem OwnN.snoc {w0 w : World} {base : Nat} {e : TypeId} {v v0 : Value} {l : List (List Int × Int)} {p : List Int × Int} (h : OwnN w0 base e v0 l) (hp : OctL p.1 ∧ p.1.length ≤ 140737488355328 ∧ In64 p.2) (ho : OwnR w base e 2 v (l.map nrow ++ [nrow p])) : OwnN w base e v (l ++ [p]) := by
  refine ⟨?_, ?_⟩
  · intro q hq
    rcases List.mem_append.1 hq with h' | h'
    · exact h.1 q h'
    · simp at h'
      subst h'
      exact hp
  · rw [List.map_append]
    exact ho
end Go.Proofs.YtnchjlimkgbfpaaGreatDoor

namespace Go.Proofs.YtnchjlimkgbfpaaGreatDoor
open Go.RowKit
set_option linter.unusedVariables false
set_option maxRecDepth 20000
instance (w : World) : Inhabited (UpW w) := ⟨⟨w, Below.refl _ _⟩⟩
theorem lessL_head (x y : Int) (h : x < y) (r q : List Int) : lessL (x :: r) (y :: q) = true := by simp [lessL, h]
theorem lessL_same (x : Int) (r q : List Int) : lessL (x :: r) (x :: q) = lessL r q := by simp [lessL]
theorem lessL_not (x y : Int) (h : y < x) (r q : List Int) : lessL (x :: r) (y :: q) = false := by
  have h1 : ¬ x < y := by omega
  have h2 : ¬ x = y := by omega
  simp [lessL, h1, h2]
theorem lessL_self : ∀ l : List Int, lessL l l = false
  | [] => rfl
  | x :: r => by rw [lessL_same, lessL_self r]
theorem lessL_trans : ∀ (a b c : List Int), lessL a b = true → lessL b c = true → lessL a c = true
  | _, _, [], _, h => by cases ‹List Int› <;> simp [lessL] at h
  | _, [], _ :: _, h, _ => by simp [lessL] at h
  | [], _ :: _, _ :: _, _, _ => by simp [lessL]
  | x :: a, y :: b, z :: c, h1, h2 => by
    have ih := lessL_trans a b c
    simp only [lessL, Bool.or_eq_true, Bool.and_eq_true, decide_eq_true_eq] at h1 h2 ⊢
    rcases h1 with h1 | ⟨h1, h1'⟩ <;> rcases h2 with h2 | ⟨h2, h2'⟩
    · left; omega
    · left; omega
    · left; omega
    · right; exact ⟨by omega, ih h1' h2'⟩
def cmpI (a b : Int) : Int := if a < b then -1 else if b < a then 1 else 0
def cmpT (s t : List Int) : Int := if lessL s t then -1 else if s = t then 0 else 1
theorem compare_list : ∀ (s t : List Int), (∀ x ∈ s, 0 ≤ x ∧ x ≤ 255) → (∀ x ∈ t, 0 ≤ x ∧ x ≤ 255) → Lib.compareBytes (s.map fun n => UInt8.ofNat n.toNat) (t.map fun n => UInt8.ofNat n.toNat) = cmpT s t
  | [], [], _, _ => by simp [Lib.compareBytes, cmpT, lessL]
  | [], y :: q, _, _ => by simp [Lib.compareBytes, cmpT, lessL]
  | x :: r, [], _, _ => by simp [Lib.compareBytes, cmpT, lessL]
  | x :: r, y :: q, hs, ht => by
    have hx := hs x (by simp)
    have hy := ht y (by simp)
    have ih := compare_list r q (fun z hz => hs z (by simp [hz])) (fun z hz => ht z (by simp [hz]))
    simp only [List.map_cons, Lib.compareBytes]
    have a1 : (UInt8.ofNat x.toNat < UInt8.ofNat y.toNat) ↔ x < y := by
      rw [UInt8.lt_iff_toNat_lt]; simp; omega
    have a2 : (UInt8.ofNat y.toNat < UInt8.ofNat x.toNat) ↔ y < x := by
      rw [UInt8.lt_iff_toNat_lt]; simp; omega
    rcases Int.lt_trichotomy x y with c | c | c
    · rw [if_pos (a1.2 c)]
      simp [cmpT, lessL_head x y c]
    · subst c
      rw [if_neg (by rw [a1]; omega), if_neg (by rw [a2]; omega), ih]
      simp [cmpT, lessL_same]
    · rw [if_neg (by rw [a1]; omega), if_pos (a2.2 c)]
      have : ¬ x = y := by omega
      simp [cmpT, lessL_not x y c, this]
theorem compare_str (s t : List Int) (hs : ∀ x ∈ s, 0 ≤ x ∧ x ≤ 255) (ht : ∀ x ∈ t, 0 ≤ x ∧ x ≤ 255) : Lib.compareBytes (strOfNums s).data.toList (strOfNums t).data.toList = cmpT s t := by
  rw [strOfNums_data, strOfNums_data]
  exact compare_list s t hs ht
set_option maxRecDepth 100000 in
theorem cmpString_any (a b : ByteArray) (w : World) : Calls Tryz.prog 192 #[.string a, .string b] w fun e w' => e = .returned (.int .i64 (Lib.compareBytes a.data.toList b.data.toList)) ∧ w' = w := by
  go_enter Tryz.func192, Tryz.ntmps192
  go_wp2
  rw [run_callFunc_extern Tryz.func215 (by kernel_rfl) (by kernel_rfl) (by kernel_rfl) (e := Extern.BytealgCompare.compare) (by kernel_rfl), Lib.run_compareString]
  simp only [Result.andThen]
  rw [Oper.upon_value]
  go_wp2
  go_ret
  exact ⟨rfl, rfl⟩
theorem strCompare_any (s t : List Int) (hs : ∀ x ∈ s, 0 ≤ x ∧ x ≤ 255) (ht : ∀ x ∈ t, 0 ≤ x ∧ x ≤ 255) (w : World) : Calls Tryz.prog 167 #[.string (strOfNums s), .string (strOfNums t)] w fun e w' => e = .returned (.int .i64 (cmpT s t)) ∧ w' = w := by
  go_enter Tryz.func167, Tryz.ntmps167
  go_wp2_with fail
  refine (cmpString_any _ _ _).mono ?_
  rintro e w1 ⟨rfl, rfl⟩
  rw [compare_str s t hs ht]
  go_wp2
  go_ret
  exact ⟨rfl, rfl⟩
theorem cmpInt_any (a b : Int) (w : World) : Calls Tryz.prog 170 #[.int .i64 a, .int .i64 b] w fun e w' => e = .returned (.int .i64 (cmpI a b)) ∧ w' = w := by
  have nan : ∀ n w, Calls Tryz.prog 193 #[.int .i64 n] w fun e w' => e = .returned (.bool false) ∧ w' = w := by
    intro n w
    go_enter Tryz.func193, Tryz.ntmps193
    go_wp2
    go_ret
    exact ⟨by simp, rfl⟩
  unfold cmpI
  rcases Int.lt_trichotomy a b with c | c | c
  · rw [if_pos c]
    go_enter Tryz.func170, Tryz.ntmps170
    go_wp2_with fail
    refine (nan _ _).mono ?_
    rintro e w1 ⟨rfl, rfl⟩
    go_wp2_with fail
    refine (nan _ _).mono ?_
    rintro e w1 ⟨rfl, rfl⟩
    go_wp2
    go_ret
    exact ⟨rfl, rfl⟩
  · subst c
    rw [if_neg (by omega), if_neg (by omega)]
    go_enter Tryz.func170, Tryz.ntmps170
    go_wp2_with fail
    refine (nan _ _).mono ?_
    rintro e w1 ⟨rfl, rfl⟩
    go_wp2_with fail
    refine (nan _ _).mono ?_
    rintro e w1 ⟨rfl, rfl⟩
    go_wp2
    go_ret
    exact ⟨rfl, rfl⟩
  · have c1 : ¬ a < b := by omega
    rw [if_neg c1, if_pos c]
    go_enter Tryz.func170, Tryz.ntmps170
    go_wp2_with fail
    refine (nan _ _).mono ?_
    rintro e w1 ⟨rfl, rfl⟩
    go_wp2_with fail
    refine (nan _ _).mono ?_
    rintro e w1 ⟨rfl, rfl⟩
    go_wp2
    go_ret
    exact ⟨rfl, rfl⟩
theorem bytes_made (w : World) (t : List Int) (ht : ∀ x ∈ t, 0 ≤ x ∧ x ≤ 255) :
    ∃ cap w1, (convert 9 88 (.string (strOfNums t))).run Tryz.prog w = .ok (.slice (some ⟨w.heap.size, 0, none⟩) t.length cap) w1 ∧ t.length ≤ cap ∧ Below w.heap.size w w1 ∧
      (∀ i, i < t.length → w1.cell? ⟨w.heap.size, i, none⟩ = some (.int .u8 (t.getD i 0))) ∧ (∀ i, i < t.length → w1.frozen? ⟨w.heap.size, i, none⟩ = false) := by
  have kb := run_bytes_of_string (P := Tryz.prog) w 9 88 5 (strOfNums t) Tryz.underlying9 Tryz.underlying88 Tryz.underlying5
  rw [str_size] at kb
  have hge := grownCap_ge w t.length 0 5
  generalize grownCap w t.length 0 5 = cap at *
  refine ⟨cap, _, kb, hge, up_al (up_dr (Below.refl _ _)) _, fun i hi => ?_, fun i hi => ?_⟩
  · have := World.cell?_alloc_mark w.drew (bytesRow (strOfNums t) cap) 5 ((bytesRow (strOfNums t) cap).size, (bytesRow (strOfNums t) cap).size + 1) i
    refine this.trans ?_
    have hsi : i < (strOfNums t).size := by rw [str_size]; exact hi
    refine (bytesRow_at (strOfNums t) cap i hsi).trans ?_
    have e := str_at t ht i hsi
    exact congrArg (fun z => some (Value.int .u8 z)) e
  · refine (World.frozen?_alloc_mark w.drew _ 5 _ _ i).trans ?_
    have : i < (bytesRow (strOfNums t) cap).size := by
      have e : (bytesRow (strOfNums t) cap).size = t.length + (cap - t.length) := by
        unfold bytesRow
        rw [Array.size_append, Array.size_map, Array.size_replicate, str_size t]
        have := str_size t
        have e2 : (strOfNums t).data.size = t.length := this
        rw [e2]
      omega
    simp
    omega
end Go.Proofs.YtnchjlimkgbfpaaGreatDoor

namespace Go.Proofs.YtnchjlimkgbfpaaGreatDoor
open Go.RowKit
set_option linter.unusedVariables false
set_option maxRecDepth 20000
set_option maxHeartbeats 400000 in
theorem nameMay_any (s : List Int) (hs : OctL s) (hl : s.length ≤ 140737488355328) (w : World) :
    Calls Tryz.prog 152 #[.string (strOfNums s)] w fun e w' => e = .returned (.bool (mayOf s)) ∧ Below w.heap.size w w' := by
  have hsz : (strOfNums s).size = s.length := by simp [strOfNums, ByteArray.size]
  go_enter Tryz.func152, Tryz.ntmps152
  by_cases c1 : s.length < 1
  · have HM : Hid (mayOf s = false) := by unfold Hid mayOf; simp; omega
    have c1' : (s.length : Int) < 1 := by omega
    go_wp2
    go_ret
    rw [HM.out]
    exact ⟨rfl, Below.refl _ _⟩
  · have c1' : ¬ (s.length : Int) < 1 := by omega
    by_cases c2 : 32 < s.length
    · have HM : Hid (mayOf s = false) := by unfold Hid mayOf; simp; omega
      have c2' : (32 : Int) < (s.length : Int) := by omega
      go_wp2
      go_ret
      rw [HM.out]
      exact ⟨rfl, Below.refl _ _⟩
    · have c2' : ¬ (32 : Int) < (s.length : Int) := by omega
      obtain ⟨cap, w1, kb, hcap, hb1, hc1, hf1⟩ := bytes_made w s hs
      have HC : Hid (∀ i, i < s.length → w1.cell? ⟨w.heap.size, i, none⟩ = some (.int .u8 (s.getD i 0))) := hc1
      have HB : Hid (Below w.heap.size w w1) := hb1
      clear hc1 hb1 hf1
      go_wp2
      go_loopw [16] (fun i wr => ∃ k : Nat, k ≤ s.length ∧ i = .int .i64 k ∧ Hid (∀ x ∈ s.take k, 33 ≤ x ∧ x ≤ 126) ∧ wr = w1) (fun i _ => s.length - (intOf i).toNat)
      case atStart => exact ⟨0, Nat.zero_le _, rfl, (fun x hx => by simp at hx), rfl⟩
      case round =>
        obtain ⟨k, hk, rfl, HK, rfl⟩ := hrel
        by_cases hlt : k < s.length
        · have hlt' : (k : Int) < (s.length : Int) := by omega
          have hck := HC.out k hlt
          have hyb : 0 ≤ s.getD k 0 ∧ s.getD k 0 ≤ 255 := hs _ (by simp [List.getD, hlt])
          have hmem : s.getD k 0 ∈ s := by simp [List.getD, hlt]
          have HT : Hid (s.take (k + 1) = s.take k ++ [s.getD k 0]) := take_snoc s k 0 hlt
          have HM : Hid (¬ (33 ≤ s.getD k 0 ∧ s.getD k 0 ≤ 126) → mayOf s = false) := by
            intro hn
            unfold mayOf
            rw [Bool.and_eq_false_iff]
            refine .inr ?_
            rw [List.all_eq_false]
            refine ⟨s.getD k 0, hmem, fun hc => hn ?_⟩
            rw [Bool.and_eq_true, decide_eq_true_eq, decide_eq_true_eq] at hc
            exact hc
          clear hmem
          generalize s.getD k 0 = y at *
          by_cases d1 : y < 33
          · have HM2 : Hid (mayOf s = false) := HM.out (by omega)
            go_wp2
            go_ret
            rw [HM2.out]
            exact ⟨rfl, HB.out⟩
          · by_cases d2 : 126 < y
            · have HM2 : Hid (mayOf s = false) := HM.out (by omega)
              go_wp2
              go_ret
              rw [HM2.out]
              exact ⟨rfl, HB.out⟩
            · have HK2 : Hid (∀ x ∈ s.take (k + 1), 33 ≤ x ∧ x ≤ 126) := by
                rw [HT.out]
                intro x hx
                rcases List.mem_append.1 hx with h | h
                · exact HK.out x h
                · simp at h
                  subst h
                  omega
              go_wp2
              exact ⟨⟨k + 1, by omega, by go_num, HK2, trivial⟩, by simp [intOf]; omega⟩
        · have hlt' : ¬ (k : Int) < (s.length : Int) := by omega
          obtain rfl : k = s.length := by omega
          have HM : Hid (mayOf s = true) := by
            unfold Hid mayOf
            have h := HK.out
            rw [List.take_length] at h
            simp only [Bool.and_eq_true, decide_eq_true_eq, List.all_eq_true]
            exact ⟨⟨by omega, by omega⟩, h⟩
          go_wp2
          go_ret
          rw [HM.out]
          exact ⟨rfl, HB.out⟩
set_option maxHeartbeats 400000 in
theorem used_any (l : List (Int × List Int × Int)) (vf : Value) (w : World) (hf : FilesW w vf l) (hn : l.length ≤ 256) :
    Calls Tryz.prog 151 #[vf] w fun e w' => e = .returned (.int .i64 (usedOf l)) ∧ Below w.heap.size w w' := by
  have HV : Hid (FilesW w vf l) := hf
  obtain ⟨a, cap, rfl, hcap, hmax⟩ := hf.len
  have hd := hf.data
  clear hf
  unfold maxLen at hmax
  have HU : Hid (∀ k, usedOf (l.take k) ≤ 256 * 140737488355328) := by
    intro k
    have := used_le (l.take k) (fun f hf => hd f (List.mem_of_mem_take hf))
    have : ((l.take k).length : Int) ≤ 256 := by rw [List.length_take]; omega
    omega
  clear hd
  go_enter Tryz.func151, Tryz.ntmps151
  go_wp2
  go_loopw [3, 8] (fun n i wr => ∃ k : Nat, k ≤ l.length ∧ i = .int .i64 k ∧ n = .int .i64 (usedOf (l.take k)) ∧ Hid (Below w.heap.size w wr)) (fun _ i _ => l.length - (intOf i).toNat)
  case atStart => exact ⟨0, Nat.zero_le _, rfl, rfl, Below.refl _ _⟩
  case round =>
    obtain ⟨k, hk, rfl, rfl, up⟩ := hrel
    by_cases hlt : k < l.length
    · have hlt' : (k : Int) < (l.length : Int) := by omega
      obtain ⟨b, off, cap', u, e, _, _, c0, c1, c2, ho, hdl, _⟩ := (HV.out.up up.out).at k hlt
      simp at e
      obtain ⟨rfl, rfl⟩ := e
      have HT : Hid (usedOf (l.take (k + 1)) = usedOf (l.take k) + ((l.getD k (0, [], 0)).2.1.length : Int)) := used_take l k hlt
      have hp := used_pos (l.take k)
      have hle := HU.out k
      generalize l.getD k (0, [], 0) = y at *
      obtain ⟨yi, yd, ys⟩ := y
      simp only at c0 c1 c2 ho hdl HT
      obtain ⟨au, capu, rfl, _⟩ := ho.slice
      generalize usedOf (l.take k) = n at *
      go_wp2
      refine ⟨⟨k + 1, by omega, by go_num, by rw [HT.out], ?_⟩, by simp [intOf]; omega⟩
      have hsz := up.out.size
      repeat (first | exact up.out | refine up_al ?_ _ | refine Below.setCell ?_ (by simp; omega) _)
    · have hlt' : ¬ (k : Int) < (l.length : Int) := by omega
      obtain rfl : k = l.length := by omega
      rw [List.take_length]
      go_wp2
      go_ret
      exact ⟨rfl, up.out⟩
end Go.Proofs.YtnchjlimkgbfpaaGreatDoor

namespace Go.Proofs.YtnchjlimkgbfpaaGreatDoor
open Go.RowKit
set_option linter.unusedVariables false
set_option maxRecDepth 20000
def rankOf {A : Type} (p : A → Bool) (l : List A) : Nat := (l.takeWhile p).length
theorem rankOf_eq {A : Type} (p : A → Bool) (d : A) : ∀ (l : List A) (i : Nat), i ≤ l.length → (∀ j, j < i → p (l.getD j d) = true) → (i < l.length → p (l.getD i d) = false) → rankOf p l = i
  | [], i, h, _, _ => by simp at h; subst h; rfl
  | x :: l, 0, _, _, h2 => by
    have := h2 (by simp)
    simp at this
    simp [rankOf, this]
  | x :: l, i + 1, h, h1, h2 => by
    have h0 := h1 0 (by omega)
    simp at h0
    have ih := rankOf_eq p d l i (by simpa using h) (fun j hj => by have := h1 (j + 1) (by omega); simpa using this) (fun hj => by have := h2 (by simpa using hj); simpa using this)
    unfold rankOf at ih ⊢
    rw [List.takeWhile_cons, h0]
    simp [ih]
def rankN (l : List (List Int × Int)) (t : List Int) : Nat := rankOf (fun p => lessL p.1 t) l
def thereN (l : List (List Int × Int)) (t : List Int) : Bool := decide (rankN l t < l.length) && decide ((l.getD (rankN l t) ([], 0)).1 = t)
def rankF (l : List (Int × List Int × Int)) (id : Int) : Nat := rankOf (fun f => decide (f.1 < id)) l
def thereF (l : List (Int × List Int × Int)) (id : Int) : Bool := decide (rankF l id < l.length) && decide ((l.getD (rankF l id) (0, [], 0)).1 = id)
theorem placeCmp_any (s t : List Int) (i : Value) (hs : OctL s) (ht : OctL t) (w : World) :
    Calls Tryz.prog 166 #[.agg #[.string (strOfNums s), i], .string (strOfNums t)] w fun e w' => e = .returned (.int .i64 (cmpT s t)) ∧ Below w.heap.size w w' := by
  go_enter Tryz.func166, Tryz.ntmps166
  go_wp2_with fail
  refine (strCompare_any s t hs ht _).mono ?_
  rintro e w1 ⟨rfl, rfl⟩
  go_wp2
  go_ret
  exact ⟨rfl, up_al (Below.refl _ _) _⟩
theorem numCmp_any (a id : Int) (d y : Value) (w : World) :
    Calls Tryz.prog 169 #[.agg #[.int .i64 a, d, y], .int .i64 id] w fun e w' => e = .returned (.int .i64 (cmpI a id)) ∧ Below w.heap.size w w' := by
  go_enter Tryz.func169, Tryz.ntmps169
  go_wp2_with fail
  refine (cmpInt_any a id _).mono ?_
  rintro e w1 ⟨rfl, rfl⟩
  go_wp2
  go_ret
  exact ⟨rfl, up_al (Below.refl _ _) _⟩
theorem cmpT_neg (s t : List Int) : cmpT s t < 0 ↔ lessL s t = true := by
  unfold cmpT
  split
  · simp_all
  · split <;> simp_all
theorem cmpT_zero (s t : List Int) : cmpT s t = 0 ↔ s = t := by
  unfold cmpT
  split
  · rename_i h
    constructor
    · intro h; simp at h
    · intro e; subst e; rw [lessL_self] at h; cases h
  · split <;> simp_all
theorem cmpI_neg (a b : Int) : cmpI a b < 0 ↔ a < b := by
  unfold cmpI
  split
  · simp_all
  · split <;> simp_all
theorem cmpI_zero (a b : Int) : cmpI a b = 0 ↔ a = b := by
  unfold cmpI
  split
  · constructor
    · intro h; simp at h
    · omega
  · split
    · constructor
      · intro h; simp at h
      · omega
    · constructor
      · omega
      · intro _; rfl
set_option maxHeartbeats 1000000 in
theorem searchN_any (l : List (List Int × Int)) (t : List Int) (ht : OctL t) (v : Value) (w : World) (hv : NamesW w v l) (hln : l.length ≤ 70368744177664)
    (hm : ∀ a b, a ≤ b → b < l.length → lessL (l.getD b ([], 0)).1 t = true → lessL (l.getD a ([], 0)).1 t = true) :
    Calls Tryz.prog 165 #[v, .string (strOfNums t), .func (.func 166) #[] #[]] w fun e w' => e = .returned (.tuple #[.int .i64 (rankN l t), .bool (thereN l t)]) ∧ Below w.heap.size w w' := by
  have HV : Hid (NamesW w v l) := hv
  obtain ⟨a, cap, rfl, hcap, hmax⟩ := hv.len
  have HM : Hid (∀ a b, a ≤ b → b < l.length → lessL (l.getD b ([], 0)).1 t = true → lessL (l.getD a ([], 0)).1 t = true) := hm
  clear hv hm
  unfold maxLen at hmax
  go_enter Tryz.func165, Tryz.ntmps165
  go_wp2
  go_loopw [9, 10] (fun i j wr => ∃ lo hi : Nat, lo ≤ hi ∧ hi ≤ l.length ∧ i = .int .i64 lo ∧ j = .int .i64 hi ∧ Hid (∀ k, k < lo → lessL (l.getD k ([], 0)).1 t = true) ∧ Hid (∀ k, hi ≤ k → k < l.length → lessL (l.getD k ([], 0)).1 t = false) ∧ Hid (Below w.heap.size w wr)) (fun i j _ => (intOf j).toNat - (intOf i).toNat)
  case atStart => exact ⟨0, l.length, Nat.zero_le _, Nat.le_refl _, rfl, rfl, (fun k hk => by omega), (fun k h1 h2 => by omega), Below.refl _ _⟩
  case round =>
    obtain ⟨lo, hi, hlh, hhl, rfl, rfl, HL, HH, up⟩ := hrel
    by_cases hlt : lo < hi
    · have hlt' : (lo : Int) < (hi : Int) := by omega
      obtain ⟨m, hmd⟩ : ∃ m : Nat, m = (lo + hi) / 2 := ⟨_, rfl⟩
      have HMD : Hid (m = (lo + hi) / 2) := hmd
      have em : ((lo : Int) + (hi : Int)) / 2 = (m : Int) := by omega
      have hml : m < l.length := by omega
      have hm1 : lo ≤ m := by omega
      have hm2 : m < hi := by omega
      clear hmd
      obtain ⟨b, off, cap', e, _, _, c0, c1, ho, _, hi'⟩ := (HV.out.up up.out).at m hml
      simp at e
      obtain ⟨rfl, rfl⟩ := e
      obtain ⟨y, hy⟩ : ∃ y, y = l.getD m ([], 0) := ⟨_, rfl⟩
      have HY : Hid (y = l.getD m ([], 0)) := hy
      rw [← hy] at c0 c1 ho hi'
      clear hy
      obtain ⟨ys, yi⟩ := y
      simp only at c0 c1 ho
      have HO : Hid (OctL ys) := ho
      clear ho
      by_cases d : lessL ys t = true
      · have hneg : cmpT ys t < 0 := (cmpT_neg _ _).2 d
        go_wp2_with fail
        refine (placeCmp_any ys t _ HO.out ht _).mono ?_
        rintro e w1 ⟨rfl, hb1⟩
        have up1 : Hid (Below w.heap.size w w1) := up_trans up.out hb1
        clear hb1
        go_wp2
        refine ⟨⟨m + 1, hi, by omega, hhl, by go_num, rfl, ?_, HH, up1⟩, by simp [intOf]; omega⟩
        intro k hk
        exact HM.out k m (by omega) hml (by rw [← HY.out]; exact d)
      · have hneg : ¬ cmpT ys t < 0 := fun h => d ((cmpT_neg _ _).1 h)
        go_wp2_with fail
        refine (placeCmp_any ys t _ HO.out ht _).mono ?_
        rintro e w1 ⟨rfl, hb1⟩
        have up1 : Hid (Below w.heap.size w w1) := up_trans up.out hb1
        clear hb1
        go_wp2
        refine ⟨⟨lo, m, by omega, by omega, rfl, by go_num, HL, ?_, up1⟩, by simp [intOf]; omega⟩
        intro k hk hkl
        cases hq : lessL (l.getD k ([], 0)).1 t with
        | false => rfl
        | true =>
          have := HM.out m k hk hkl hq
          rw [← HY.out] at this
          exact absurd this d
    · have hlt' : ¬ (lo : Int) < (hi : Int) := by omega
      obtain rfl : lo = hi := by omega
      have HR : Hid (rankN l t = lo) := rankOf_eq _ ([], 0) l lo hhl HL.out (fun h => HH.out lo (Nat.le_refl _) h)
      by_cases hn : lo < l.length
      · have hn' : (lo : Int) < (l.length : Int) := by omega
        obtain ⟨b, off, cap', e, _, _, c0, c1, ho, _, hi'⟩ := (HV.out.up up.out).at lo hn
        simp at e
        obtain ⟨rfl, rfl⟩ := e
        have HT : Hid (thereN l t = decide ((l.getD lo ([], 0)).1 = t)) := by
          unfold Hid thereN
          rw [HR.out, decide_eq_true hn]
          simp
        generalize l.getD lo ([], 0) = y at *
        obtain ⟨ys, yi⟩ := y
        simp only at c0 c1 ho HT
        have HO : Hid (OctL ys) := ho
        clear ho
        by_cases d : ys = t
        · have hz : cmpT ys t = 0 := (cmpT_zero _ _).2 d
          have HT2 : Hid (thereN l t = true) := HT.out.trans (decide_eq_true d)
          clear d
          go_wp2_with fail
          refine (placeCmp_any ys t _ HO.out ht _).mono ?_
          rintro e w1 ⟨rfl, hb1⟩
          have up1 : Hid (Below w.heap.size w w1) := up_trans up.out hb1
          clear hb1
          go_wp2
          go_ret2
          rw [HR.out, HT2.out]
          exact ⟨rfl, up1.out⟩
        · have hz : (cmpT ys t == 0) = false := by rw [beq_eq_false_iff_ne]; exact fun h => d ((cmpT_zero _ _).1 h)
          have HT2 : Hid (thereN l t = false) := HT.out.trans (decide_eq_false d)
          clear d
          go_wp2_with fail
          refine (placeCmp_any ys t _ HO.out ht _).mono ?_
          rintro e w1 ⟨rfl, hb1⟩
          have up1 : Hid (Below w.heap.size w w1) := up_trans up.out hb1
          clear hb1
          go_wp2
          go_ret2
          rw [HR.out, HT2.out]
          exact ⟨rfl, up1.out⟩
      · have hn' : ¬ (lo : Int) < (l.length : Int) := by omega
        have HT : Hid (thereN l t = false) := by
          unfold Hid thereN
          rw [HR.out, decide_eq_false hn]
          rfl
        go_wp2
        go_ret2
        rw [HR.out, HT.out]
        exact ⟨rfl, up.out⟩
set_option maxHeartbeats 1000000 in
theorem searchF_any (l : List (Int × List Int × Int)) (t : Int) (v : Value) (w : World) (hv : FilesW w v l) (hln : l.length ≤ 70368744177664)
    (hm : ∀ a b, a ≤ b → b < l.length → (l.getD b (0, [], 0)).1 < t → (l.getD a (0, [], 0)).1 < t) :
    Calls Tryz.prog 168 #[v, .int .i64 t, .func (.func 169) #[] #[]] w fun e w' => e = .returned (.tuple #[.int .i64 (rankF l t), .bool (thereF l t)]) ∧ Below w.heap.size w w' := by
  have HV : Hid (FilesW w v l) := hv
  obtain ⟨a, cap, rfl, hcap, hmax⟩ := hv.len
  have HM : Hid (∀ a b, a ≤ b → b < l.length → (l.getD b (0, [], 0)).1 < t → (l.getD a (0, [], 0)).1 < t) := hm
  clear hv hm
  unfold maxLen at hmax
  go_enter Tryz.func168, Tryz.ntmps168
  go_wp2
  go_loopw [9, 10] (fun i j wr => ∃ lo hi : Nat, lo ≤ hi ∧ hi ≤ l.length ∧ i = .int .i64 lo ∧ j = .int .i64 hi ∧ Hid (∀ k, k < lo → (l.getD k (0, [], 0)).1 < t) ∧ Hid (∀ k, hi ≤ k → k < l.length → t ≤ (l.getD k (0, [], 0)).1) ∧ Hid (Below w.heap.size w wr)) (fun i j _ => (intOf j).toNat - (intOf i).toNat)
  case atStart => exact ⟨0, l.length, Nat.zero_le _, Nat.le_refl _, rfl, rfl, (fun k hk => by omega), (fun k h1 h2 => by omega), Below.refl _ _⟩
  case round =>
    obtain ⟨lo, hi, hlh, hhl, rfl, rfl, HL, HH, up⟩ := hrel
    by_cases hlt : lo < hi
    · have hlt' : (lo : Int) < (hi : Int) := by omega
      obtain ⟨m, hmd⟩ : ∃ m : Nat, m = (lo + hi) / 2 := ⟨_, rfl⟩
      have HMD : Hid (m = (lo + hi) / 2) := hmd
      have em : ((lo : Int) + (hi : Int)) / 2 = (m : Int) := by omega
      have hml : m < l.length := by omega
      have hm1 : lo ≤ m := by omega
      have hm2 : m < hi := by omega
      clear hmd
      obtain ⟨b, off, cap', u, e, _, _, c0, c1, c2, ho, _, hi', _⟩ := (HV.out.up up.out).at m hml
      simp at e
      obtain ⟨rfl, rfl⟩ := e
      obtain ⟨y, hy⟩ : ∃ y, y = l.getD m (0, [], 0) := ⟨_, rfl⟩
      have HY : Hid (y = l.getD m (0, [], 0)) := hy
      rw [← hy] at c0 c2 ho hi'
      clear hy
      obtain ⟨ys, yd, yi⟩ := y
      simp only at c0 c2 hi'
      by_cases d : ys < t
      · have hneg : cmpI ys t < 0 := (cmpI_neg _ _).2 d
        go_wp2_with fail
        refine (numCmp_any ys t _ _ _).mono ?_
        rintro e w1 ⟨rfl, hb1⟩
        have up1 : Hid (Below w.heap.size w w1) := up_trans up.out hb1
        clear hb1
        go_wp2
        refine ⟨⟨m + 1, hi, by omega, hhl, by go_num, rfl, ?_, HH, up1⟩, by simp [intOf]; omega⟩
        intro k hk
        exact HM.out k m (by omega) hml (by rw [← HY.out]; exact d)
      · have hneg : ¬ cmpI ys t < 0 := fun h => d ((cmpI_neg _ _).1 h)
        go_wp2_with fail
        refine (numCmp_any ys t _ _ _).mono ?_
        rintro e w1 ⟨rfl, hb1⟩
        have up1 : Hid (Below w.heap.size w w1) := up_trans up.out hb1
        clear hb1
        go_wp2
        refine ⟨⟨lo, m, by omega, by omega, rfl, by go_num, HL, ?_, up1⟩, by simp [intOf]; omega⟩
        intro k hk hkl
        rcases (by omega : (l.getD k (0, [], 0)).1 < t ∨ t ≤ (l.getD k (0, [], 0)).1) with hq | hq
        · have := HM.out m k hk hkl hq
          rw [← HY.out] at this
          simp only at this
          omega
        · exact hq
    · have hlt' : ¬ (lo : Int) < (hi : Int) := by omega
      obtain rfl : lo = hi := by omega
      have HR : Hid (rankF l t = lo) := rankOf_eq _ (0, [], 0) l lo hhl (fun j hj => decide_eq_true (HL.out j hj)) (fun h => decide_eq_false (Int.not_lt.2 (HH.out lo (Nat.le_refl _) h)))
      by_cases hn : lo < l.length
      · have hn' : (lo : Int) < (l.length : Int) := by omega
        obtain ⟨b, off, cap', u, e, _, _, c0, c1, c2, ho, _, hi', _⟩ := (HV.out.up up.out).at lo hn
        simp at e
        obtain ⟨rfl, rfl⟩ := e
        have HT : Hid (thereF l t = decide ((l.getD lo (0, [], 0)).1 = t)) := by
          unfold Hid thereF
          rw [HR.out, decide_eq_true hn]
          simp
        generalize l.getD lo (0, [], 0) = y at *
        obtain ⟨ys, yd, yi⟩ := y
        simp only at c0 c2 hi' HT
        by_cases d : ys = t
        · have hz : cmpI ys t = 0 := (cmpI_zero _ _).2 d
          have HT2 : Hid (thereF l t = true) := HT.out.trans (decide_eq_true d)
          clear d
          go_wp2_with fail
          refine (numCmp_any ys t _ _ _).mono ?_
          rintro e w1 ⟨rfl, hb1⟩
          have up1 : Hid (Below w.heap.size w w1) := up_trans up.out hb1
          clear hb1
          go_wp2
          go_ret2
          rw [HR.out, HT2.out]
          exact ⟨rfl, up1.out⟩
        · have hz : (cmpI ys t == 0) = false := by rw [beq_eq_false_iff_ne]; exact fun h => d ((cmpI_zero _ _).1 h)
          have HT2 : Hid (thereF l t = false) := HT.out.trans (decide_eq_false d)
          clear d
          go_wp2_with fail
          refine (numCmp_any ys t _ _ _).mono ?_
          rintro e w1 ⟨rfl, hb1⟩
          have up1 : Hid (Below w.heap.size w w1) := up_trans up.out hb1
          clear hb1
          go_wp2
          go_ret2
          rw [HR.out, HT2.out]
          exact ⟨rfl, up1.out⟩
      · have hn' : ¬ (lo : Int) < (l.length : Int) := by omega
        have HT : Hid (thereF l t = false) := by
          unfold Hid thereF
          rw [HR.out, decide_eq_false hn]
          rfl
        go_wp2
        go_ret2
        rw [HR.out, HT.out]
        exact ⟨rfl, up.out⟩
end Go.Proofs.YtnchjlimkgbfpaaGreatDoor

namespace Go.Proofs.YtnchjlimkgbfpaaGreatDoor
open Go.RowKit
set_option linter.unusedVariables false
set_option maxRecDepth 20000
def RiseN (l : List (List Int × Int)) : Prop := ∀ a b, a < b → b < l.length → lessL (l.getD a ([], 0)).1 (l.getD b ([], 0)).1 = true
def RiseF (l : List (Int × List Int × Int)) : Prop := ∀ a b, a < b → b < l.length → (l.getD a (0, [], 0)).1 < (l.getD b (0, [], 0)).1
theorem RiseN.mono {l : List (List Int × Int)} (h : RiseN l) (t : List Int) : ∀ a b, a ≤ b → b < l.length → lessL (l.getD b ([], 0)).1 t = true → lessL (l.getD a ([], 0)).1 t = true := by
  intro a b hab hb hl
  rcases Nat.lt_or_ge a b with c | c
  · exact lessL_trans _ _ _ (h a b c hb) hl
  · obtain rfl : a = b := by omega
    exact hl
theorem RiseF.mono {l : List (Int × List Int × Int)} (h : RiseF l) (t : Int) : ∀ a b, a ≤ b → b < l.length → (l.getD b (0, [], 0)).1 < t → (l.getD a (0, [], 0)).1 < t := by
  intro a b hab hb hl
  rcases Nat.lt_or_ge a b with c | c
  · have := h a b c hb
    omega
  · obtain rfl : a = b := by omega
    exact hl
theorem place_any (l : List (List Int × Int)) (t : List Int) (ht : OctL t) (v : Value) (w : World) (hv : NamesW w v l) (hln : l.length ≤ 70368744177664) (hr : RiseN l) :
    Calls Tryz.prog 130 #[v, .string (strOfNums t)] w fun e w' => e = .returned (.tuple #[.int .i64 (rankN l t), .bool (thereN l t)]) ∧ Below w.heap.size w w' := by
  have h := searchN_any l t ht v w hv hln (hr.mono t)
  go_enter Tryz.func130, Tryz.ntmps130
  go_wp2_with fail
  refine h.mono ?_
  rintro e w1 ⟨rfl, hb1⟩
  have up1 : Hid (Below w.heap.size w w1) := hb1
  clear hb1 h
  go_wp2
  go_ret2
  exact ⟨rfl, up1.out⟩
theorem numbered_any (l : List (Int × List Int × Int)) (t : Int) (v : Value) (w : World) (hv : FilesW w v l) (hln : l.length ≤ 70368744177664) (hr : RiseF l) :
    Calls Tryz.prog 131 #[v, .int .i64 t] w fun e w' => e = .returned (.tuple #[.int .i64 (rankF l t), .bool (thereF l t)]) ∧ Below w.heap.size w w' := by
  have h := searchF_any l t v w hv hln (hr.mono t)
  go_enter Tryz.func131, Tryz.ntmps131
  go_wp2_with fail
  refine h.mono ?_
  rintro e w1 ⟨rfl, hb1⟩
  have up1 : Hid (Below w.heap.size w w1) := hb1
  clear hb1 h
  go_wp2
  go_ret2
  exact ⟨rfl, up1.out⟩
theorem lt_of_thereN {l : List (List Int × Int)} {t : List Int} (h : thereN l t = true) : rankN l t < l.length := by
  unfold thereN at h
  rw [Bool.and_eq_true, decide_eq_true_eq] at h
  exact h.1
set_option maxHeartbeats 1000000 in
theorem file_any (fs : List (Int × List Int × Int)) (l : List (List Int × Int)) (t : List Int) (ht : OctL t) (x0 vf vn vs x4 : Value) (w : World) (hf : FilesW w vf fs) (hv : NamesW w vn l)
    (hl1 : fs.length ≤ 70368744177664) (hl2 : l.length ≤ 70368744177664) (hrf : RiseF fs) (hrn : RiseN l) :
    Calls Tryz.prog 87 #[.agg #[x0, vf, vn, vs, x4], .string (strOfNums t)] w fun e w' => e = .returned (.tuple #[.int .i64 (if thereN l t then (rankF fs (l.getD (rankN l t) ([], 0)).2 : Int) else 0), .bool (thereN l t && thereF fs (l.getD (rankN l t) ([], 0)).2)]) ∧ Below w.heap.size w w' := by
  have HF : Hid (FilesW w vf fs) := hf
  have HV : Hid (NamesW w vn l) := hv
  have HP : Hid (RiseF fs ∧ RiseN l) := ⟨hrf, hrn⟩
  clear hf hv hrf hrn
  go_enter Tryz.func87, Tryz.ntmps87
  go_wp2_with fail
  refine (place_any l t ht vn _ (HV.out.up (up_al (Below.refl _ _) _)) hl2 HP.out.2).mono ?_
  rintro e w1 ⟨rfl, hb1⟩
  have up1 : Hid (Below w.heap.size w w1) := up_trans (up_al (Below.refl _ _) _) hb1
  have hbox : ∀ i x, (#[x0, vf, vn, vs, x4] : Array Value)[i]? = some x → w1.cell? ⟨w.heap.size, i, none⟩ = some x := by
    intro i x hi
    have e := World.cell?_alloc_new w #[x0, vf, vn, vs, x4] 35 i
    rw [hi] at e
    exact (hb1.cell (p := ⟨w.heap.size, i, none⟩) (by simp)).trans e
  have q1 := hbox 1 vf rfl
  have q2 := hbox 2 vn rfl
  clear hbox hb1
  cases hth : thereN l t with
  | false =>
    go_wp2
    all_goals
      go_ret2
      exact ⟨by simp, up1.out⟩
  | true =>
    have hlt := lt_of_thereN hth
    have hlt' : ((rankN l t : Nat) : Int) < (l.length : Int) := by omega
    obtain ⟨b, off, cap', e, _, _, c0, c1, ho, _, hi'⟩ := (HV.out.up up1.out).at (rankN l t) hlt
    subst e
    have HI : Hid (∃ r id, r = rankN l t ∧ id = (l.getD (rankN l t) ([], 0)).2) := ⟨_, _, rfl, rfl⟩
    obtain ⟨r, id, hr, hid⟩ := HI.out
    rw [← hr] at hlt' c1
    rw [← hr] at hid
    rw [← hid] at c1
    have HID : Hid (id = (l.getD (rankN l t) ([], 0)).2) := by unfold Hid; rw [← hr]; exact hid
    clear c0 ho hi' hlt hid HI
    have HR : Hid (r = rankN l t) := hr
    rw [← hr]
    clear hr
    have p1 := cell_up q1
    have p2 := cell_up q2
    have p3 := cell_up c1
    have HF1 : Hid (FilesW w1 vf fs) := HF.out.up up1.out
    go_wp2_with fail
    refine wp_region_up (by kernel_rfl) (by kernel_rfl) ?_
    repeat (quiet_step ((go_at_call 131; refine calls_up (numbered_any fs id vf _ (HF1.out.up (UpW.up _)) hl1 HP.out.1))))
    refine wpQuiet_nil ?_
    intro _ hw'
    obtain ⟨p, hw''⟩ := hw'
    subst hw''
    go_wp2
    go_ret2
    exact ⟨by simp [← HR.out, HID.out], up_trans up1.out p.up⟩
end Go.Proofs.YtnchjlimkgbfpaaGreatDoor
