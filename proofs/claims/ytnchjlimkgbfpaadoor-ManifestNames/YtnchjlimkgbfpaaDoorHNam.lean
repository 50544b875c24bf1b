/- Layer 14, plain: names of files as octets: a kind and a number's decimal digits. No import but Lean's own. -/
import Derived.Test.YtnchjlimkgbfpaaDoorKBase
namespace Go.Proofs.YtnchjlimkgbfpaaDoor
set_option linter.unusedVariables false

/-- A number's digits, as octets, the greatest first; of 0 none. -/
def digs (n : Nat) : List Int := if h : n = 0 then [] else digs (n / 10) ++ [48 + ((n % 10 : Nat) : Int)]
termination_by n
decreasing_by omega
theorem digs_zero : digs 0 = [] := by unfold digs; simp
theorem digs_pos {n : Nat} (h : 0 < n) : digs n = digs (n / 10) ++ [48 + ((n % 10 : Nat) : Int)] := by
  conv => lhs; unfold digs
  rw [dif_neg (by omega)]
def isDig (x : Int) : Bool := decide (48 ≤ x) && decide (x ≤ 57)
theorem isDig_iff {x : Int} : isDig x = true ↔ 48 ≤ x ∧ x ≤ 57 := by simp [isDig]
theorem digs_dig : ∀ (k n : Nat), n ≤ k → ∀ x ∈ digs n, isDig x = true
  | k, 0, _, x, hx => by rw [digs_zero] at hx; cases hx
  | 0, n + 1, h, x, hx => by omega
  | k + 1, n + 1, h, x, hx => by
    rw [digs_pos (by omega), List.mem_append, List.mem_singleton] at hx
    rcases hx with hx | rfl
    · exact digs_dig k ((n + 1) / 10) (by omega) x hx
    · rw [isDig_iff]; omega
/-- What digits say. -/
def valF (l : List Int) (a : Int) : Int := l.foldl (fun n x => 10 * n + (x - 48)) a
theorem valF_append (a b : List Int) (n : Int) : valF (a ++ b) n = valF b (valF a n) := by simp [valF, List.foldl_append]
theorem val_digs : ∀ (k n : Nat), n ≤ k → valF (digs n) 0 = (n : Int)
  | k, 0, _ => by rw [digs_zero]; rfl
  | 0, n + 1, h => by omega
  | k + 1, n + 1, h => by
    rw [digs_pos (by omega), valF_append, val_digs k ((n + 1) / 10) (by omega)]
    simp only [valF, List.foldl_cons, List.foldl_nil]
    omega
theorem digs_ne {n : Nat} (h : 0 < n) : digs n ≠ [] := by rw [digs_pos h]; simp
theorem digs_len : ∀ (d n : Nat), n < 10 ^ d → (digs n).length ≤ d
  | 0, n, h => by
    have : n = 0 := by simp at h; omega
    subst this
    rw [digs_zero]
    simp
  | d + 1, n, h => by
    by_cases hn : n = 0
    · subst hn; rw [digs_zero]; simp
    · rw [digs_pos (by omega), List.length_append, List.length_singleton]
      have : n / 10 < 10 ^ d := by
        rw [Nat.pow_succ] at h
        omega
      have := digs_len d (n / 10) this
      omega
theorem digs_inj {a b : Nat} (h : digs a = digs b) : a = b := by
  have h1 := val_digs a a (Nat.le_refl _)
  have h2 := val_digs b b (Nat.le_refl _)
  rw [h] at h1
  omega
/-- What digits say stays within ten digits. -/
theorem val_bound : ∀ (l : List Int) (a : Int) (d : Nat), (∀ x ∈ l, isDig x = true) → 0 ≤ a → a < (10 : Int) ^ d → 0 ≤ valF l a ∧ valF l a < (10 : Int) ^ (d + l.length)
  | [], a, d, _, h0, h1 => ⟨h0, by simpa [valF] using h1⟩
  | x :: l, a, d, hl, h0, h1 => by
    have hx := isDig_iff.1 (hl x List.mem_cons_self)
    have e : valF (x :: l) a = valF l (10 * a + (x - 48)) := rfl
    rw [e]
    have h2 : 10 * a + (x - 48) < (10 : Int) ^ (d + 1) := by
      rw [Int.pow_succ]
      omega
    have := val_bound l (10 * a + (x - 48)) (d + 1) (fun y hy => hl y (List.mem_cons_of_mem _ hy)) (by omega) h2
    rw [show d + (x :: l).length = d + 1 + l.length by simp; omega]
    exact this
/-- Digits without a 0 ahead are those of the number that they say. -/
theorem digs_val : ∀ (l : List Int) (a : Nat), (∀ x ∈ l, isDig x = true) → 0 < a → digs (valF l (a : Int)).toNat = digs a ++ l
  | [], a, _, _ => by simp [valF]
  | x :: l, a, hl, ha => by
    have hx := isDig_iff.1 (hl x List.mem_cons_self)
    have e : valF (x :: l) (a : Int) = valF l ((10 * a + (x - 48).toNat : Nat) : Int) := by
      show valF l (10 * (a : Int) + (x - 48)) = _
      congr 1
      omega
    rw [e, digs_val l (10 * a + (x - 48).toNat) (fun y hy => hl y (List.mem_cons_of_mem _ hy)) (by omega), digs_pos (by omega)]
    rw [show (10 * a + (x - 48).toNat) / 10 = a by omega, show 48 + (((10 * a + (x - 48).toNat) % 10 : Nat) : Int) = x by omega]
    simp
theorem digs_of {x : Int} {l : List Int} (hx : 49 ≤ x ∧ x ≤ 57) (hl : ∀ y ∈ l, isDig y = true) : digs (valF (x :: l) 0).toNat = x :: l := by
  have e : valF (x :: l) 0 = valF l ((x - 48).toNat : Int) := by
    show valF l (10 * 0 + (x - 48)) = _
    congr 1
    omega
  rw [e, digs_val l (x - 48).toNat hl (by omega), digs_pos (by omega)]
  rw [show (x - 48).toNat / 10 = 0 by omega, digs_zero, show 48 + (((x - 48).toNat % 10 : Nat) : Int) = x by omega]
  rfl
theorem digs_head : ∀ (k n : Nat), n ≤ k → 0 < n → ∃ x l, digs n = x :: l ∧ 49 ≤ x ∧ x ≤ 57
  | 0, n, h, h0 => by omega
  | k + 1, n, h, h0 => by
    rw [digs_pos h0]
    by_cases hn : n / 10 = 0
    · rw [hn, digs_zero]
      exact ⟨_, [], rfl, by omega, by omega⟩
    · obtain ⟨x, l, e, h1⟩ := digs_head k (n / 10) (by omega) (by omega)
      rw [e]
      exact ⟨x, l ++ [48 + ((n % 10 : Nat) : Int)], rfl, h1⟩

/-! ### names -/
def kindOk (k : Int) : Bool := decide (k = 109) || (decide (k = 108) || decide (k = 116))
def idOk (id : Int) : Bool := decide (1 ≤ id) && decide (id ≤ 2147483647)
/-- What Name answers: octets, error. -/
def nameN (k id : Int) : List Int × Int := if kindOk k = false then ([], 22) else if idOk id = false then ([], 4) else (k :: digs id.toNat, 0)
/-- What Parse answers. -/
def parseN (s : List Int) : Option (Int × Int) :=
  match s with
  | [] => none
  | k :: l => if kindOk k = true ∧ l ≠ [] ∧ l.length ≤ 10 ∧ l.all isDig = true ∧ idOk (valF l 0) = true ∧ digs (valF l 0).toNat = l then some (k, valF l 0) else none
theorem parse_name {k id : Int} (hk : kindOk k = true) (hi : idOk id = true) : parseN (k :: digs id.toNat) = some (k, id) := by
  have hi' : 1 ≤ id ∧ id ≤ 2147483647 := by simpa [idOk] using hi
  have hv : valF (digs id.toNat) 0 = id := by rw [val_digs id.toNat id.toNat (Nat.le_refl _)]; omega
  unfold parseN
  simp only
  rw [if_pos ⟨hk, digs_ne (by omega), digs_len 10 _ (by omega), List.all_eq_true.2 (digs_dig _ _ (Nat.le_refl _)), by rw [hv]; exact hi, by rw [hv]⟩, hv]
theorem name_parse {s : List Int} {k id : Int} (h : parseN s = some (k, id)) : kindOk k = true ∧ idOk id = true ∧ s = k :: digs id.toNat := by
  unfold parseN at h
  cases s with
  | nil => cases h
  | cons a l =>
    simp only at h
    split at h
    · rename_i q
      simp only [Option.some.injEq, Prod.mk.injEq] at h
      obtain ⟨rfl, rfl⟩ := h
      exact ⟨q.1, q.2.2.2.2.1, by rw [q.2.2.2.2.2]⟩
    · cases h
/-- The same by the first digit: what a reader without a second writing asks. -/
theorem parse_first (k x : Int) (l : List Int) : parseN (k :: x :: l) = if kindOk k = true ∧ l.length ≤ 9 ∧ (49 ≤ x ∧ x ≤ 57) ∧ l.all isDig = true ∧ valF (x :: l) 0 ≤ 2147483647 then some (k, valF (x :: l) 0) else none := by
  unfold parseN
  simp only
  by_cases hd : (x :: l).all isDig = true
  · have hx := isDig_iff.1 (List.all_eq_true.1 hd x List.mem_cons_self)
    have hl : ∀ y ∈ l, isDig y = true := fun y hy => List.all_eq_true.1 hd y (List.mem_cons_of_mem _ hy)
    by_cases h0 : 49 ≤ x
    · have e := digs_of ⟨h0, hx.2⟩ hl
      have hpos : 1 ≤ valF (x :: l) 0 := by
        rcases Int.lt_or_le (valF (x :: l) 0) 1 with q | q
        · have : (valF (x :: l) 0).toNat = 0 := by omega
          rw [this, digs_zero] at e
          cases e
        · exact q
      congr 1
      refine propext ⟨fun q => ?_, fun q => ?_⟩
      · have := q.2.2.2.2.1
        simp only [idOk, Bool.and_eq_true, decide_eq_true_eq] at this
        exact ⟨q.1, by have := q.2.2.1; simp at this; omega, ⟨h0, hx.2⟩, List.all_eq_true.2 hl, this.2⟩
      · exact ⟨q.1, by simp, by have := q.2.1; simp; omega, hd, by simp only [idOk, Bool.and_eq_true, decide_eq_true_eq]; exact ⟨hpos, q.2.2.2.2⟩, e⟩
    · rw [if_neg, if_neg]
      · intro q; exact h0 q.2.2.1.1
      · intro q
        have h1 := q.2.2.2.2.1
        simp only [idOk, Bool.and_eq_true, decide_eq_true_eq] at h1
        obtain ⟨y, m, e, h2⟩ := digs_head _ (valF (x :: l) 0).toNat (Nat.le_refl _) (by omega)
        rw [q.2.2.2.2.2] at e
        injection e with e1 _
        omega
  · rw [if_neg (fun q => hd q.2.2.2.1), if_neg]
    intro q
    refine hd (List.all_eq_true.2 fun y hy => ?_)
    rcases List.mem_cons.1 hy with rfl | hy
    · rw [isDig_iff]; omega
    · exact List.all_eq_true.1 q.2.2.2.1 y hy
end Go.Proofs.YtnchjlimkgbfpaaDoor
