/- Rules of five fields, plainly: words, numbers, items, fields, texts. -/
import Derived.Test.YtbnghhmmanleaaaDoorNSet
namespace Go.Proofs.YtbnghhmmanleaaaDoor
set_option linter.unusedVariables false

/-- Where an octet stands first; the length: nowhere. -/
def cutN : List Int → Int → Nat
  | [], _ => 0
  | x :: l, c => if x = c then 0 else cutN l c + 1
theorem cutN_cons (x : Int) (l : List Int) (c : Int) : cutN (x :: l) c = if x = c then 0 else cutN l c + 1 := rfl
theorem cutN_le : ∀ (l : List Int) (c : Int), cutN l c ≤ l.length
  | [], _ => Nat.le_refl _
  | x :: l, c => by
    rw [cutN_cons]
    split
    · exact Nat.zero_le _
    · have := cutN_le l c
      simp only [List.length_cons]
      omega
theorem cutN_step {l : List Int} {c : Int} {k : Nat} (hk : k < l.length) (h : cutN l c = k + cutN (l.drop k) c) :
    (l.getD k 0 = c → cutN l c = k) ∧ (l.getD k 0 ≠ c → cutN l c = k + 1 + cutN (l.drop (k + 1)) c) := by
  have e : l.drop k = l.getD k 0 :: l.drop (k + 1) := by
    rw [List.drop_eq_getElem_cons hk]
    simp [List.getD, hk]
  rw [e, cutN_cons] at h
  constructor
  · intro q
    rw [if_pos q] at h
    omega
  · intro q
    rw [if_neg q] at h
    omega
def cutI (l : List Int) (c : Int) : Int := if cutN l c < l.length then (cutN l c : Int) else -1
def isD (x : Int) : Bool := decide (48 ≤ x) && decide (x ≤ 57)
/-- A number of one or two digits; -1: it is none. -/
def numD : List Int → Int
  | [a] => if isD a then a - 48 else -1
  | [a, b] => if isD a && isD b then 10 * (a - 48) + (b - 48) else -1
  | _ => -1
theorem isD_iff {x : Int} : isD x = true ↔ 48 ≤ x ∧ x ≤ 57 := by simp [isD]
theorem numD_one (a : Int) : numD [a] = if isD a then a - 48 else -1 := rfl
theorem numD_two (a b : Int) : numD [a, b] = if isD a && isD b then 10 * (a - 48) + (b - 48) else -1 := rfl
theorem numD_bounds : ∀ l : List Int, -1 ≤ numD l ∧ numD l ≤ 99
  | [] => by decide
  | [a] => by
    rw [numD_one]
    by_cases h : isD a = true
    · have := isD_iff.1 h
      rw [if_pos h]
      omega
    · rw [if_neg h]
      omega
  | [a, b] => by
    rw [numD_two]
    by_cases h : (isD a && isD b) = true
    · rw [if_pos h]
      rw [Bool.and_eq_true] at h
      have := isD_iff.1 h.1
      have := isD_iff.1 h.2
      omega
    · rw [if_neg h]
      omega
  | _ :: _ :: _ :: _ => ⟨by show (-1 : Int) ≤ -1; omega, by show (-1 : Int) ≤ 99; omega⟩
/-- The numbers of a span by steps, as a set; 0: it is none. -/
def rngN (lo hi a b st : Int) : Nat :=
  if a < lo ∨ hi < b ∨ b < a then 0 else setN 64 fun j => decide (a ≤ (j : Int)) && (decide ((j : Int) ≤ b) && decide (((j : Int) - a) % st = 0))
/-- An item's span, behind which a step stands or not. -/
def spanP (l : List Int) (lo hi : Int) (stepped : Bool) : Option (Int × Int) :=
  if l = [42] then some (lo, hi)
  else if cutN l 45 < l.length then some (numD (l.take (cutN l 45)), numD (l.drop (cutN l 45 + 1)))
  else if stepped then none else some (numD l, numD l)
def itemR (o : Option (Int × Int)) (lo hi st : Int) : Nat := match o with
  | none => 0
  | some q => rngN lo hi q.1 q.2 st
def itemN (l : List Int) (lo hi : Int) : Nat :=
  if cutN l 47 < l.length then
    if numD (l.drop (cutN l 47 + 1)) < 1 then 0 else itemR (spanP (l.take (cutN l 47)) lo hi true) lo hi (numD (l.drop (cutN l 47 + 1)))
  else itemR (spanP l lo hi false) lo hi 1
theorem rngN_lt (lo hi a b st : Int) : rngN lo hi a b st < 18446744073709551616 := by
  unfold rngN
  split
  · decide
  · exact setN_lt 64 _
theorem itemN_lt (l : List Int) (lo hi : Int) : itemN l lo hi < 18446744073709551616 := by
  have h : ∀ o st, itemR o lo hi st < 18446744073709551616 := by
    intro o st
    cases o with
    | none => exact (by decide : (0 : Nat) < 18446744073709551616)
    | some q => exact rngN_lt _ _ _ _ _
  unfold itemN
  split
  · split
    · decide
    · exact h _ _
  · exact h _ _
theorem step_bit {a st k j : Int} (hs : 0 < st) (hk : (k - a) % st = 0) :
    (j < k + st ∧ (j - a) % st = 0) ↔ ((j < k ∧ (j - a) % st = 0) ∨ j = k) := by
  constructor
  · rintro ⟨h1, h2⟩
    by_cases c : j < k
    · exact .inl ⟨c, h2⟩
    · right
      have e : (j - k) % st = 0 := by
        have := Int.sub_emod (j - a) (k - a) st
        rw [h2, hk, show j - a - (k - a) = j - k by omega] at this
        simpa using this
      have := Int.emod_eq_of_lt (a := j - k) (b := st) (by omega) (by omega)
      omega
  · rintro (⟨h1, h2⟩ | rfl)
    · exact ⟨by omega, h2⟩
    · exact ⟨by omega, hk⟩
theorem step_on {a st k : Int} (hk : (k - a) % st = 0) : (k + st - a) % st = 0 := by
  rw [show k + st - a = (k - a) + st by omega, Int.add_emod_right]
  exact hk
theorem step_back {a st k j : Int} (hs : 0 < st) (hk : (k - a) % st = 0) (hj : (j - a) % st = 0) (h : j < k) : j ≤ k - st := by
  have e : (k - j) % st = 0 := by
    have := Int.sub_emod (k - a) (j - a) st
    rw [hj, hk, show k - a - (j - a) = k - j by omega] at this
    simpa using this
  by_cases c : k - j < st
  · have := Int.emod_eq_of_lt (a := k - j) (b := st) (by omega) c
    omega
  · omega
/-- What stands between octets of a kind. -/
def splitN : List Int → Int → List (List Int)
  | [], _ => [[]]
  | x :: l, c => if x = c then [] :: splitN l c else match splitN l c with
    | [] => [[x]]
    | h :: t => (x :: h) :: t
theorem splitN_ne (l : List Int) (c : Int) : splitN l c ≠ [] := by
  cases l with
  | nil => simp [splitN]
  | cons x l =>
    unfold splitN
    split
    · simp
    · split <;> simp
theorem splitN_cons (x : Int) (l : List Int) (c : Int) : splitN (x :: l) c = if x = c then [] :: splitN l c else match splitN l c with
    | [] => [[x]]
    | h :: t => (x :: h) :: t := rfl
theorem splitN_cut (l : List Int) (c : Int) : splitN l c = if cutN l c < l.length then l.take (cutN l c) :: splitN (l.drop (cutN l c + 1)) c else [l] := by
  induction l with
  | nil => rfl
  | cons x l ih =>
    rw [splitN_cons, cutN_cons]
    by_cases e : x = c
    · rw [if_pos e, if_pos e, if_pos (by simp)]
      simp
    · rw [if_neg e, if_neg e, ih]
      by_cases q : cutN l c < l.length
      · rw [if_pos q, if_pos (by simp; omega)]
        simp
      · rw [if_neg q, if_neg (by simp; omega)]
/-- A field's items, put together. -/
def goF (acc : Nat) (l : List Int) (lo hi : Int) : Nat :=
  if ((splitN l 44).map fun x => itemN x lo hi).any (· == 0) then 0 else ((splitN l 44).map fun x => itemN x lo hi).foldl (· ||| ·) acc
def fieldN (l : List Int) (lo hi : Int) : Nat := goF 0 l lo hi
theorem goF_more {acc : Nat} {l : List Int} {lo hi : Int} (h : cutN l 44 < l.length) :
    goF acc l lo hi = if itemN (l.take (cutN l 44)) lo hi = 0 then 0 else goF (acc ||| itemN (l.take (cutN l 44)) lo hi) (l.drop (cutN l 44 + 1)) lo hi := by
  unfold goF
  rw [splitN_cut l 44, if_pos h]
  simp only [List.map_cons, List.any_cons, List.foldl_cons]
  by_cases e : itemN (l.take (cutN l 44)) lo hi = 0
  · rw [if_pos e, if_pos (by rw [e]; rfl)]
  · rw [if_neg e]
    have : (itemN (l.take (cutN l 44)) lo hi == 0) = false := by simpa using e
    rw [this, Bool.false_or]
theorem goF_last {acc : Nat} {l : List Int} {lo hi : Int} (h : ¬ cutN l 44 < l.length) :
    goF acc l lo hi = if itemN l lo hi = 0 then 0 else acc ||| itemN l lo hi := by
  unfold goF
  rw [splitN_cut l 44, if_neg h]
  simp only [List.map_cons, List.any_cons, List.foldl_cons, List.map_nil, List.any_nil, List.foldl_nil, Bool.or_false]
  by_cases e : itemN l lo hi = 0
  · rw [if_pos e, if_pos (by rw [e]; rfl)]
  · rw [if_neg e, if_neg (by simpa using e)]
theorem foldl_or_lt (l : List Nat) (acc : Nat) (ha : acc < 18446744073709551616) (hl : ∀ x ∈ l, x < 18446744073709551616) : l.foldl (· ||| ·) acc < 18446744073709551616 := by
  induction l generalizing acc with
  | nil => exact ha
  | cons x l ih => exact ih _ (or_lt ha (hl x (by simp))) fun y hy => hl y (by simp [hy])
theorem fieldN_lt (l : List Int) (lo hi : Int) : fieldN l lo hi < 18446744073709551616 := by
  unfold fieldN goF
  split
  · decide
  · refine foldl_or_lt _ _ (by decide) fun x hx => ?_
    obtain ⟨y, _, rfl⟩ := List.mem_map.1 hx
    exact itemN_lt _ _ _
/-- What stands between blanks. -/
def wordsF : List Int → List Int → List (List Int)
  | [], w => if w = [] then [] else [w]
  | c :: l, w => if c = 32 then (if w = [] then wordsF l [] else w :: wordsF l []) else wordsF l (w ++ [c])
def wordsL (l : List Int) : List (List Int) := wordsF l []
theorem wordsF_cons (c : Int) (l w : List Int) : wordsF (c :: l) w = if c = 32 then (if w = [] then wordsF l [] else w :: wordsF l []) else wordsF l (w ++ [c]) := rfl
theorem wordsF_oct : ∀ (l w : List Int), (∀ x ∈ l, 0 ≤ x ∧ x ≤ 255) → (∀ x ∈ w, 0 ≤ x ∧ x ≤ 255) → ∀ v ∈ wordsF l w, (∀ x ∈ v, 0 ≤ x ∧ x ≤ 255) ∧ v.length ≤ l.length + w.length
  | [], w, hl, hw, v, hv => by
    unfold wordsF at hv
    split at hv
    · cases hv
    · cases List.mem_singleton.1 hv
      exact ⟨hw, by simp⟩
  | c :: l, w, hl, hw, v, hv => by
    have hl' : ∀ x ∈ l, 0 ≤ x ∧ x ≤ 255 := fun x hx => hl x (List.mem_cons_of_mem _ hx)
    rw [wordsF_cons] at hv
    split at hv
    · split at hv
      · have := wordsF_oct l [] hl' (by simp) v hv
        exact ⟨this.1, by have := this.2; simp at this ⊢; omega⟩
      · rcases List.mem_cons.1 hv with rfl | hv
        · exact ⟨hw, by simp⟩
        · have := wordsF_oct l [] hl' (by simp) v hv
          exact ⟨this.1, by have := this.2; simp at this ⊢; omega⟩
    · have := wordsF_oct l (w ++ [c]) hl' (by
        intro x hx
        rcases List.mem_append.1 hx with hx | hx
        · exact hw x hx
        · cases List.mem_singleton.1 hx
          exact hl _ List.mem_cons_self) v hv
      exact ⟨this.1, by have := this.2; simp at this ⊢; omega⟩
theorem wordsL_oct {l : List Int} (hl : ∀ x ∈ l, 0 ≤ x ∧ x ≤ 255) : ∀ v ∈ wordsL l, (∀ x ∈ v, 0 ≤ x ∧ x ≤ 255) ∧ v.length ≤ l.length := by
  intro v hv
  have := wordsF_oct l [] hl (by simp) v hv
  exact ⟨this.1, by simpa using this.2⟩
end Go.Proofs.YtbnghhmmanleaaaDoor
