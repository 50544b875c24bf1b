/- The octets of the lesser of two numbers come first, octet by octet, and neither's octets begin the other's. Plain lists and numbers; the numbers fit uint64. -/
import Derived.Test.YtamamhgmijmkjaaPutFull
import Derived.Lib.Strings
namespace Go.Proofs.Ytamamhgmijmkjaa
open Go.RowKit
set_option linter.unusedVariables false

/-- The lists part at one place, and there the first has the lesser number. -/
def Parts (l1 l2 : List Int) : Prop := ∃ p x y r1 r2, l1 = p ++ x :: r1 ∧ l2 = p ++ y :: r2 ∧ x < y

theorem acc_cons (s x : Int) (r : List Int) : acc s (x :: r) = acc (s * 256 + x) r := rfl

theorem acc_lo : ∀ (r : List Int) (s t : Int), (∀ x ∈ r, 0 ≤ x ∧ x ≤ 255) → s ≤ t → s * 256 ^ r.length ≤ acc t r
  | [], s, t, _, h => by simpa [acc] using h
  | x :: r, s, t, hx, h => by
    have h0 := hx x (by simp)
    rw [acc_cons, List.length_cons]
    have := acc_lo r (s * 256) (t * 256 + x) (fun y hy => hx y (by simp [hy])) (by omega)
    rw [Int.pow_succ]
    calc s * (256 ^ r.length * 256) = s * 256 * 256 ^ r.length := by rw [Int.mul_comm (256 ^ r.length) 256, Int.mul_assoc]
      _ ≤ _ := this

theorem acc_hi : ∀ (r : List Int) (s t : Int), (∀ x ∈ r, 0 ≤ x ∧ x ≤ 255) → t + 1 ≤ s → acc t r + 1 ≤ s * 256 ^ r.length
  | [], s, t, _, h => by simpa [acc] using h
  | x :: r, s, t, hx, h => by
    have h0 := hx x (by simp)
    rw [acc_cons, List.length_cons]
    have := acc_hi r (s * 256) (t * 256 + x) (fun y hy => hx y (by simp [hy])) (by omega)
    rw [Int.pow_succ]
    calc acc (t * 256 + x) r + 1 ≤ s * 256 * 256 ^ r.length := this
      _ = s * (256 ^ r.length * 256) := by rw [Int.mul_comm (256 ^ r.length) 256, Int.mul_assoc]

/-- Two lists of one length: what is less by an earlier place is less. -/
theorem acc_lt (r1 r2 : List Int) (s t : Int) (hl : r1.length = r2.length) (h1 : ∀ x ∈ r1, 0 ≤ x ∧ x ≤ 255) (h2 : ∀ x ∈ r2, 0 ≤ x ∧ x ≤ 255) (h : s < t) : acc s r1 < acc t r2 := by
  have a := acc_hi r1 (s + 1) s h1 (by omega)
  have b := acc_lo r2 (s + 1) t h2 (by omega)
  rw [hl] at a
  omega

theorem parts_same : ∀ (l1 l2 : List Int) (s : Int), l1.length = l2.length → (∀ x ∈ l1, 0 ≤ x ∧ x ≤ 255) → (∀ x ∈ l2, 0 ≤ x ∧ x ≤ 255) → acc s l1 < acc s l2 → Parts l1 l2
  | [], [], s, _, _, _, h => by simp [acc] at h
  | [], _ :: _, s, hl, _, _, _ => by simp at hl
  | _ :: _, [], s, hl, _, _, _ => by simp at hl
  | x :: r1, y :: r2, s, hl, h1, h2, h => by
    rw [acc_cons, acc_cons] at h
    simp only [List.length_cons] at hl
    have g1 : ∀ z ∈ r1, 0 ≤ z ∧ z ≤ 255 := fun z hz => h1 z (by simp [hz])
    have g2 : ∀ z ∈ r2, 0 ≤ z ∧ z ≤ 255 := fun z hz => h2 z (by simp [hz])
    rcases Int.lt_trichotomy x y with c | c | c
    · exact ⟨[], x, y, r1, r2, rfl, rfl, c⟩
    · subst c
      obtain ⟨p, a, b, t1, t2, rfl, rfl, hab⟩ := parts_same r1 r2 (s * 256 + x) (by omega) g1 g2 h
      exact ⟨x :: p, a, b, t1, t2, rfl, rfl, hab⟩
    · have := acc_lt r2 r1 (s * 256 + y) (s * 256 + x) (by omega) g2 g1 (by omega)
      omega

theorem size_mono (a b : Int) (h0 : 0 ≤ a) (h : a ≤ b) (h1 : b ≤ 18446744073709551615) : sizeOf a ≤ sizeOf b := by
  unfold sizeOf
  have : bl a ≤ bl b := by
    by_cases ha : a = 0
    · subst ha
      have : bl 0 = 0 := by decide +kernel
      have := bl_nonneg b
      omega
    · have e := bl_down a (bl a - 1).toNat
      have s := (bitLen_spec a.toNat).2 (by omega)
      have p : 1 ≤ bl a := by
        have := bl_down a 0 (by simp; omega)
        simpa using this
      have q : (2 : Int) ^ (bl a - 1).toNat ≤ a := by
        have e1 : (bl a - 1).toNat = bitLen a.toNat - 1 := by unfold bl; omega
        rw [e1]
        have e2 : ((2 ^ (bitLen a.toNat - 1) : Nat) : Int) = 2 ^ (bitLen a.toNat - 1) := by simp
        omega
      have d := bl_down b (bl a - 1).toNat (by omega)
      omega
  omega

theorem octets_parts (a b : Int) (h0 : 0 ≤ a) (h : a < b) (h1 : b ≤ 18446744073709551615) : Parts (octets a) (octets b) := by
  have A := octets_form a h0 (by omega)
  have B := octets_form b (by omega) h1
  obtain ⟨f, r, ea, ta, ca⟩ := A.first
  obtain ⟨g, q, eb, tb, cb⟩ := B.first
  have m := size_mono a b h0 (by omega) h1
  have oa := A.octet
  have ob := B.octet
  have sa := A.size
  have sb := B.size
  rw [ea] at oa sa ⊢
  rw [eb] at ob sb ⊢
  have hf := oa f (by simp)
  have hg := ob g (by simp)
  by_cases c : sizeOf a = sizeOf b
  · rw [c] at ca sa
    simp only [List.length_cons] at sa sb
    rcases Int.lt_trichotomy f g with d | d | d
    · exact ⟨[], f, g, r, q, rfl, rfl, d⟩
    · subst d
      obtain ⟨p, x, y, t1, t2, rfl, rfl, hxy⟩ := parts_same r q (f - leadOf (sizeOf b)) (by omega) (fun z hz => oa z (by simp [hz])) (fun z hz => ob z (by simp [hz])) (by omega)
      exact ⟨f :: p, x, y, t1, t2, rfl, rfl, hxy⟩
    · have := acc_lt q r (g - leadOf (sizeOf b)) (f - leadOf (sizeOf b)) (by omega) (fun z hz => ob z (by simp [hz])) (fun z hz => oa z (by simp [hz])) (by omega)
      omega
  · have hfg : f < g := by
      rcases told_cases f hf.1 hf.2 with ⟨u, v, x⟩ | ⟨u, v, x⟩ | ⟨u, v, x⟩ | ⟨u, v, x⟩ | ⟨u, v, x⟩ | ⟨u, v, x⟩ | ⟨u, v, x⟩ | ⟨u, v, x⟩ | ⟨u, v, x⟩ <;> rcases told_cases g hg.1 hg.2 with ⟨u', v', x'⟩ | ⟨u', v', x'⟩ | ⟨u', v', x'⟩ | ⟨u', v', x'⟩ | ⟨u', v', x'⟩ | ⟨u', v', x'⟩ | ⟨u', v', x'⟩ | ⟨u', v', x'⟩ | ⟨u', v', x'⟩ <;> omega
    exact ⟨[], f, g, r, q, rfl, rfl, hfg⟩

def u8s (l : List Int) : List UInt8 := l.map fun n => UInt8.ofNat n.toNat

theorem less_parts (p : List UInt8) (x y : UInt8) (r q : List UInt8) (h : x < y) : Op.bytesLess (p ++ x :: r) (p ++ y :: q) = true ∧ Op.bytesLess (p ++ y :: q) (p ++ x :: r) = false := by
  induction p with
  | nil =>
    have h1 : ¬ y < x := by rw [UInt8.lt_iff_toNat_lt] at *; omega
    have h2 : ¬ y = x := by intro e; subst e; rw [UInt8.lt_iff_toNat_lt] at h; omega
    simp [Op.bytesLess, h, h1, h2]
  | cons c p ih =>
    have h1 : ¬ c < c := by rw [UInt8.lt_iff_toNat_lt]; omega
    simp [Op.bytesLess, ih, h1]

theorem less_self (l : List UInt8) : Op.bytesLess l l = false := by
  induction l with
  | nil => rfl
  | cons c p ih =>
    have h1 : ¬ c < c := by rw [UInt8.lt_iff_toNat_lt]; omega
    simp [Op.bytesLess, ih, h1]

theorem u8_lt (x y : Int) (hx : 0 ≤ x ∧ x ≤ 255) (hy : 0 ≤ y ∧ y ≤ 255) (h : x < y) : UInt8.ofNat x.toNat < UInt8.ofNat y.toNat := by
  rw [UInt8.lt_iff_toNat_lt]
  simp
  omega

/-- The texts of two numbers' octets, held against each other. -/
theorem text_less (a b : Int) (h0 : 0 ≤ a) (h1 : a ≤ 18446744073709551615) (h2 : 0 ≤ b) (h3 : b ≤ 18446744073709551615) :
    Op.bytesLess (strOfNums (octets a)).toList (strOfNums (octets b)).toList = decide (a < b) := by
  rw [str_list, str_list]
  have A := (octets_form a h0 h1).octet
  have B := (octets_form b h2 h3).octet
  rcases Int.lt_trichotomy a b with c | c | c
  · obtain ⟨p, x, y, r, q, ea, eb, h⟩ := octets_parts a b h0 c h3
    rw [ea] at A ⊢
    rw [eb] at B ⊢
    rw [decide_eq_true c]
    simp only [List.map_append, List.map_cons]
    exact (less_parts _ _ _ _ _ (u8_lt x y (A x (by simp)) (B y (by simp)) h)).1
  · subst c
    rw [less_self]
    simp
  · obtain ⟨p, x, y, r, q, ea, eb, h⟩ := octets_parts b a h2 c h1
    rw [eb] at A ⊢
    rw [ea] at B ⊢
    rw [decide_eq_false (by omega)]
    simp only [List.map_append, List.map_cons]
    exact (less_parts _ _ _ _ _ (u8_lt x y (B x (by simp)) (A y (by simp)) h)).2

theorem octets_inj (a b : Int) (h0 : 0 ≤ a) (h1 : a ≤ 18446744073709551615) (h2 : 0 ≤ b) (h3 : b ≤ 18446744073709551615) (e : octets a = octets b) : a = b := by
  have ga := getOf_back a h0 h1 []
  have gb := getOf_back b h2 h3 []
  rw [e, gb] at ga
  simp at ga
  exact ga.1.symm

theorem text_same (a b : Int) (h0 : 0 ≤ a) (h1 : a ≤ 18446744073709551615) (h2 : 0 ≤ b) (h3 : b ≤ 18446744073709551615) :
    ((strOfNums (octets a)).toList == (strOfNums (octets b)).toList) = (a == b) := by
  rw [str_eq _ _ (octets_form a h0 h1).octet (octets_form b h2 h3).octet]
  by_cases c : a = b
  · subst c; simp
  · rw [beq_eq_false_iff_ne.2 c, decide_eq_false]
    exact fun e => c (octets_inj a b h0 h1 h2 h3 e)

theorem parts_take {l1 l2 : List Int} (h : Parts l1 l2) (n : Nat) (h1 : n ≤ l1.length) (h2 : n ≤ l2.length) (hn : n = l1.length ∨ n = l2.length) : l1.take n ≠ l2.take n := by
  obtain ⟨p, x, y, r, q, rfl, rfl, hxy⟩ := h
  have hp : p.length < n := by
    simp only [List.length_append, List.length_cons] at hn
    omega
  intro e
  have e1 := congrArg (fun l => l[p.length]?) e
  simp only [List.getElem?_take, if_pos hp] at e1
  simp at e1
  omega

theorem octets_either (a b : Int) (h0 : 0 ≤ a) (h1 : a ≤ 18446744073709551615) (h2 : 0 ≤ b) (h3 : b ≤ 18446744073709551615) (hne : ¬ a = b) (n : Nat) (k1 : n ≤ (octets a).length) (k2 : n ≤ (octets b).length) (hn : n = (octets a).length ∨ n = (octets b).length) :
    (octets a).take n ≠ (octets b).take n := by
  rcases Int.lt_trichotomy a b with c | c | c
  · exact parts_take (octets_parts a b h0 c h3) n k1 k2 hn
  · exact absurd c hne
  · intro e
    exact parts_take (octets_parts b a h2 c h1) n k2 k1 hn.symm e.symm

theorem str_cut (l : List Int) (n : Nat) : ((strOfNums l).extract 0 n).toList = (l.take n).map fun n => UInt8.ofNat n.toNat := by
  rw [Lib.extract_toList, strOfNums_data]
  simp [List.map_take]

theorem text_cut (a b : Int) (h0 : 0 ≤ a) (h1 : a ≤ 18446744073709551615) (h2 : 0 ≤ b) (h3 : b ≤ 18446744073709551615) (hne : ¬ a = b) :
    ((strOfNums (octets b)).size < (strOfNums (octets a)).size → (((strOfNums (octets a)).extract 0 (strOfNums (octets b)).size).toList == (strOfNums (octets b)).toList) = false) ∧
    (¬ (strOfNums (octets b)).size < (strOfNums (octets a)).size → ((strOfNums (octets a)).toList == ((strOfNums (octets b)).extract 0 (strOfNums (octets a)).size).toList) = false) := by
  have A := (octets_form a h0 h1).octet
  have B := (octets_form b h2 h3).octet
  rw [strOfNums_size, strOfNums_size, str_cut, str_cut, str_list, str_list]
  refine ⟨fun h => ?_, fun h => ?_⟩
  · rw [beq_eq_false_iff_ne]
    intro e
    refine octets_either a b h0 h1 h2 h3 hne (octets b).length (by omega) (Nat.le_refl _) (.inr rfl) ?_
    rw [List.take_length]
    exact nums_inj _ _ (fun x hx => A x (List.mem_of_mem_take hx)) B e
  · rw [beq_eq_false_iff_ne]
    intro e
    refine octets_either a b h0 h1 h2 h3 hne (octets a).length (Nat.le_refl _) (by omega) (.inl rfl) ?_
    rw [List.take_length]
    exact nums_inj _ _ A (fun x hx => B x (List.mem_of_mem_take hx)) e
end Go.Proofs.Ytamamhgmijmkjaa
