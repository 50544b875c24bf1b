/- Sets of numbers, plain rules, texts. -/
import Derived.Test.YtpjmieiajhhbaaaDoorGC

/- Sets of numbers as bits of a uint64: the document's has and all. -/
namespace Go.Proofs.YtpjmieiajhhbaaaDoor
open Go.RowKit
set_option linter.unusedVariables false
set_option linter.unusedSimpArgs false

/-- The set of the numbers below n that p tells. -/
def setN : Nat → (Nat → Bool) → Nat
  | 0, _ => 0
  | n + 1, p => setN n p ||| (if p n then 2 ^ n else 0)
theorem setN_bit (n : Nat) (p : Nat → Bool) (j : Nat) : (setN n p).testBit j = (decide (j < n) && p j) := by
  induction n with
  | zero => simp [setN]
  | succ n ih =>
    simp only [setN, Nat.testBit_or, ih]
    by_cases c : p n = true
    · rw [if_pos c, Nat.testBit_two_pow]
      by_cases e : n = j
      · subst e; simp [c]
      · have : (decide (j < n + 1)) = decide (j < n) := by rw [decide_eq_decide]; omega
        simp [e, this]
    · rw [if_neg c, Nat.zero_testBit, Bool.or_false]
      by_cases e : j = n
      · subst e
        have : p j = false := by simpa using c
        simp [this]
      · have : (decide (j < n + 1)) = decide (j < n) := by rw [decide_eq_decide]; omega
        rw [this]
theorem lt_of_bits {s n : Nat} (h : ∀ j, n ≤ j → s.testBit j = false) : s < 2 ^ n := Nat.lt_pow_two_of_testBit s h
theorem setN_lt (n : Nat) (p : Nat → Bool) : setN n p < 2 ^ n := lt_of_bits fun j hj => by
  rw [setN_bit]
  have : ¬ j < n := by omega
  simp [this]
theorem bit_far {s j : Nat} (hs : s < 18446744073709551616) (hj : 64 ≤ j) : s.testBit j = false :=
  Nat.testBit_lt_two_pow (Nat.lt_of_lt_of_le (show s < 2 ^ 64 from hs) (Nat.pow_le_pow_right (by decide) hj))
theorem set_ext {s t : Nat} (hs : s < 18446744073709551616) (ht : t < 18446744073709551616) (h : ∀ j, j < 64 → s.testBit j = t.testBit j) : s = t := by
  apply Nat.eq_of_testBit_eq
  intro j
  by_cases c : j < 64
  · exact h j c
  · rw [bit_far hs (by omega), bit_far ht (by omega)]
theorem set_eq {s : Nat} {p : Nat → Bool} (hs : s < 18446744073709551616) (h : ∀ j, j < 64 → s.testBit j = p j) : s = setN 64 p := by
  refine set_ext hs (setN_lt 64 p) fun j hj => ?_
  rw [setN_bit, h j hj]
  simp [hj]
theorem bit_and (a b : Nat) (ha : a < 18446744073709551616) (hb : b < 18446744073709551616) : bits .and .u64 (a : Int) (b : Int) = ((a &&& b : Nat) : Int) := by
  have := u64_and (a : Int) (b : Int) (by omega) (by omega) (by omega) (by omega)
  simpa using this
theorem bit_or (a b : Nat) (ha : a < 18446744073709551616) (hb : b < 18446744073709551616) : bits .or .u64 (a : Int) (b : Int) = ((a ||| b : Nat) : Int) := by
  have := u64_or (a : Int) (b : Int) (by omega) (by omega) (by omega) (by omega)
  simpa using this
theorem or_lt {a b : Nat} (ha : a < 18446744073709551616) (hb : b < 18446744073709551616) : a ||| b < 18446744073709551616 := Nat.or_lt_two_pow (n := 64) ha hb
theorem pow_lt {k : Nat} (hk : k < 64) : 2 ^ k < 18446744073709551616 := Nat.pow_lt_pow_right (a := 2) (by decide) (show k < 64 from hk)
theorem pow_wrap {k : Nat} (hk : k < 64) : IntKind.u64.wrap (2 ^ k) = ((2 ^ k : Nat) : Int) := by
  have h := pow_lt hk
  rw [IntKind.wrap_u64]
  have e : (2 : Int) ^ k = ((2 ^ k : Nat) : Int) := by simp
  rw [e]
  generalize 2 ^ k = x at *
  omega
theorem has_test (s k : Nat) (hs : s < 18446744073709551616) : (bits .and .u64 ((s : Int) / 2 ^ k) 1 == 1) = s.testBit k := by
  have e : ((s : Int) / 2 ^ k) = ((s / 2 ^ k : Nat) : Int) := by simp
  have h1 : s / 2 ^ k < 18446744073709551616 := Nat.lt_of_le_of_lt (Nat.div_le_self _ _) hs
  have := bit_and (s / 2 ^ k) 1 h1 (by decide)
  rw [e]
  rw [show (1 : Int) = ((1 : Nat) : Int) from rfl, this, Nat.and_one_is_mod, Nat.testBit_eq_decide_div_mod_eq, Bool.eq_iff_iff, beq_iff_eq, decide_eq_true_eq]
  omega
theorem has_any (s k : Nat) (hs : s < 18446744073709551616) (hk : k < 64) (w : World) : Calls Tryd.prog 54 #[.int .u64 (s : Int), .int .i64 (k : Int)] w fun e w' => e = .returned (.bool (s.testBit k)) ∧ w' = w := by
  have e := hid (has_test s k hs)
  go_enter Tryd.func54, Tryd.ntmps54
  go_wp2
  go_ret
  exact ⟨ret_bool e.out, rfl⟩
/-- All from one number to another one. -/
def allN (a b : Nat) : Nat := setN 64 fun j => decide (a ≤ j) && decide (j ≤ b)
theorem all_any (a b : Nat) (hb : b < 64) (w : World) : Calls Tryd.prog 69 #[.int .i64 (a : Int), .int .i64 (b : Int)] w fun e w' => e = .returned (.int .u64 (allN a b : Int)) ∧ w' = w := by
  go_enter Tryd.func69, Tryd.ntmps69
  go_wp2
  go_loopw [5, 6] (fun s i wr => ∃ (k n : Nat), i = .int .i64 (k : Int) ∧ a ≤ k ∧ (k ≤ b + 1 ∨ k = a) ∧ s = .int .u64 (n : Int) ∧ n < 18446744073709551616 ∧ Hid (∀ j, j < 64 → n.testBit j = (decide (a ≤ j) && decide (j < k))) ∧ w = wr) (fun _ q _ => (65 - intOf q).toNat)
  case atStart => exact ⟨a, 0, rfl, by omega, by omega, rfl, by omega, fun j _ => by rw [Nat.zero_testBit]; simp, rfl⟩
  case round =>
    obtain ⟨k, n, rfl, k0, k1, rfl, n0, hn, rfl⟩ := hrel
    by_cases c : (k : Int) ≤ (b : Int)
    · have pw := pow_wrap (k := k) (by omega)
      have po := bit_or n (2 ^ k) n0 (pow_lt (by omega))
      have N2 : Hid (n ||| 2 ^ k < 18446744073709551616) := or_lt n0 (pow_lt (by omega))
      have HB : Hid (∀ j, j < 64 → (n ||| 2 ^ k).testBit j = (decide (a ≤ j) && decide (j < k + 1))) := by
        intro j hj
        rw [Nat.testBit_or, hn.out j hj, Nat.testBit_two_pow, Bool.eq_iff_iff]
        simp
        omega
      go_wp2
      refine ⟨⟨k + 1, n ||| 2 ^ k, by go_num, by omega, by omega, by rw [show ((2 : Int) ^ k) = ((2 ^ k : Nat) : Int) by simp, po], N2, HB, by first | rfl | trivial⟩, by simp [intOf]; omega⟩
    · have E : Hid (n = allN a b) := set_eq n0 fun j hj => by
        rw [hn.out j hj, Bool.eq_iff_iff]
        simp only [Bool.and_eq_true, decide_eq_true_eq]
        omega
      go_wp2
      go_ret
      exact ⟨by rw [← E.out]; rfl, rfl⟩
end Go.Proofs.YtpjmieiajhhbaaaDoor

/- Rules of five fields, plainly: words, numbers, items, fields, texts. -/
namespace Go.Proofs.YtpjmieiajhhbaaaDoor
set_option linter.unusedVariables false

/-- Where an octet stands first; the length: nowhere. -/
def cutN : List Int → Int → Nat
  | [], _ => 0
  | x :: l, c => if x = c then 0 else cutN l c + 1
theorem cutN_cons (x : Int) (l : List Int) (c : Int) : cutN (x :: l) c = if x = c then 0 else cutN l c + 1 := rfl
theorem cutN_le : ∀ (l : List Int) (c : Int), cutN l c ≤ l.length
  | [], _ => Nat.le_refl _
  | x :: l, c => by
    rw [cutN_cons]
    split
    · exact Nat.zero_le _
    · have := cutN_le l c
      simp only [List.length_cons]
      omega
theorem cutN_step {l : List Int} {c : Int} {k : Nat} (hk : k < l.length) (h : cutN l c = k + cutN (l.drop k) c) :
    (l.getD k 0 = c → cutN l c = k) ∧ (l.getD k 0 ≠ c → cutN l c = k + 1 + cutN (l.drop (k + 1)) c) := by
  have e : l.drop k = l.getD k 0 :: l.drop (k + 1) := by
    rw [List.drop_eq_getElem_cons hk]
    simp [List.getD, hk]
  rw [e, cutN_cons] at h
  constructor
  · intro q
    rw [if_pos q] at h
    omega
  · intro q
    rw [if_neg q] at h
    omega
def cutI (l : List Int) (c : Int) : Int := if cutN l c < l.length then (cutN l c : Int) else -1
def isD (x : Int) : Bool := decide (48 ≤ x) && decide (x ≤ 57)
/-- A number of one or two digits; -1: it is none. -/
def numD : List Int → Int
  | [a] => if isD a then a - 48 else -1
  | [a, b] => if isD a && isD b then 10 * (a - 48) + (b - 48) else -1
  | _ => -1
theorem isD_iff {x : Int} : isD x = true ↔ 48 ≤ x ∧ x ≤ 57 := by simp [isD]
theorem numD_one (a : Int) : numD [a] = if isD a then a - 48 else -1 := rfl
theorem numD_two (a b : Int) : numD [a, b] = if isD a && isD b then 10 * (a - 48) + (b - 48) else -1 := rfl
theorem numD_bounds : ∀ l : List Int, -1 ≤ numD l ∧ numD l ≤ 99
  | [] => by decide
  | [a] => by
    rw [numD_one]
    by_cases h : isD a = true
    · have := isD_iff.1 h
      rw [if_pos h]
      omega
    · rw [if_neg h]
      omega
  | [a, b] => by
    rw [numD_two]
    by_cases h : (isD a && isD b) = true
    · rw [if_pos h]
      rw [Bool.and_eq_true] at h
      have := isD_iff.1 h.1
      have := isD_iff.1 h.2
      omega
    · rw [if_neg h]
      omega
  | _ :: _ :: _ :: _ => ⟨by show (-1 : Int) ≤ -1; omega, by show (-1 : Int) ≤ 99; omega⟩
/-- The numbers of a span by steps, as a set; 0: it is none. -/
def rngN (lo hi a b st : Int) : Nat :=
  if a < lo ∨ hi < b ∨ b < a then 0 else setN 64 fun j => decide (a ≤ (j : Int)) && (decide ((j : Int) ≤ b) && decide (((j : Int) - a) % st = 0))
/-- An item's span, behind which a step stands or not. -/
def spanP (l : List Int) (lo hi : Int) (stepped : Bool) : Option (Int × Int) :=
  if l = [42] then some (lo, hi)
  else if cutN l 45 < l.length then some (numD (l.take (cutN l 45)), numD (l.drop (cutN l 45 + 1)))
  else if stepped then none else some (numD l, numD l)
def itemR (o : Option (Int × Int)) (lo hi st : Int) : Nat := match o with
  | none => 0
  | some q => rngN lo hi q.1 q.2 st
def itemN (l : List Int) (lo hi : Int) : Nat :=
  if cutN l 47 < l.length then
    if numD (l.drop (cutN l 47 + 1)) < 1 then 0 else itemR (spanP (l.take (cutN l 47)) lo hi true) lo hi (numD (l.drop (cutN l 47 + 1)))
  else itemR (spanP l lo hi false) lo hi 1
theorem rngN_lt (lo hi a b st : Int) : rngN lo hi a b st < 18446744073709551616 := by
  unfold rngN
  split
  · decide
  · exact setN_lt 64 _
theorem itemN_lt (l : List Int) (lo hi : Int) : itemN l lo hi < 18446744073709551616 := by
  have h : ∀ o st, itemR o lo hi st < 18446744073709551616 := by
    intro o st
    cases o with
    | none => exact (by decide : (0 : Nat) < 18446744073709551616)
    | some q => exact rngN_lt _ _ _ _ _
  unfold itemN
  split
  · split
    · decide
    · exact h _ _
  · exact h _ _
theorem step_bit {a st k j : Int} (hs : 0 < st) (hk : (k - a) % st = 0) :
    (j < k + st ∧ (j - a) % st = 0) ↔ ((j < k ∧ (j - a) % st = 0) ∨ j = k) := by
  constructor
  · rintro ⟨h1, h2⟩
    by_cases c : j < k
    · exact .inl ⟨c, h2⟩
    · right
      have e : (j - k) % st = 0 := by
        have := Int.sub_emod (j - a) (k - a) st
        rw [h2, hk, show j - a - (k - a) = j - k by omega] at this
        simpa using this
      have := Int.emod_eq_of_lt (a := j - k) (b := st) (by omega) (by omega)
      omega
  · rintro (⟨h1, h2⟩ | rfl)
    · exact ⟨by omega, h2⟩
    · exact ⟨by omega, hk⟩
theorem step_on {a st k : Int} (hk : (k - a) % st = 0) : (k + st - a) % st = 0 := by
  rw [show k + st - a = (k - a) + st by omega, Int.add_emod_right]
  exact hk
theorem step_back {a st k j : Int} (hs : 0 < st) (hk : (k - a) % st = 0) (hj : (j - a) % st = 0) (h : j < k) : j ≤ k - st := by
  have e : (k - j) % st = 0 := by
    have := Int.sub_emod (k - a) (j - a) st
    rw [hj, hk, show k - a - (j - a) = k - j by omega] at this
    simpa using this
  by_cases c : k - j < st
  · have := Int.emod_eq_of_lt (a := k - j) (b := st) (by omega) c
    omega
  · omega
/-- What stands between octets of a kind. -/
def splitN : List Int → Int → List (List Int)
  | [], _ => [[]]
  | x :: l, c => if x = c then [] :: splitN l c else match splitN l c with
    | [] => [[x]]
    | h :: t => (x :: h) :: t
theorem splitN_ne (l : List Int) (c : Int) : splitN l c ≠ [] := by
  cases l with
  | nil => simp [splitN]
  | cons x l =>
    unfold splitN
    split
    · simp
    · split <;> simp
theorem splitN_cons (x : Int) (l : List Int) (c : Int) : splitN (x :: l) c = if x = c then [] :: splitN l c else match splitN l c with
    | [] => [[x]]
    | h :: t => (x :: h) :: t := rfl
theorem splitN_cut (l : List Int) (c : Int) : splitN l c = if cutN l c < l.length then l.take (cutN l c) :: splitN (l.drop (cutN l c + 1)) c else [l] := by
  induction l with
  | nil => rfl
  | cons x l ih =>
    rw [splitN_cons, cutN_cons]
    by_cases e : x = c
    · rw [if_pos e, if_pos e, if_pos (by simp)]
      simp
    · rw [if_neg e, if_neg e, ih]
      by_cases q : cutN l c < l.length
      · rw [if_pos q, if_pos (by simp; omega)]
        simp
      · rw [if_neg q, if_neg (by simp; omega)]
/-- A field's items, put together. -/
def goF (acc : Nat) (l : List Int) (lo hi : Int) : Nat :=
  if ((splitN l 44).map fun x => itemN x lo hi).any (· == 0) then 0 else ((splitN l 44).map fun x => itemN x lo hi).foldl (· ||| ·) acc
def fieldN (l : List Int) (lo hi : Int) : Nat := goF 0 l lo hi
theorem goF_more {acc : Nat} {l : List Int} {lo hi : Int} (h : cutN l 44 < l.length) :
    goF acc l lo hi = if itemN (l.take (cutN l 44)) lo hi = 0 then 0 else goF (acc ||| itemN (l.take (cutN l 44)) lo hi) (l.drop (cutN l 44 + 1)) lo hi := by
  unfold goF
  rw [splitN_cut l 44, if_pos h]
  simp only [List.map_cons, List.any_cons, List.foldl_cons]
  by_cases e : itemN (l.take (cutN l 44)) lo hi = 0
  · rw [if_pos e, if_pos (by rw [e]; rfl)]
  · rw [if_neg e]
    have : (itemN (l.take (cutN l 44)) lo hi == 0) = false := by simpa using e
    rw [this, Bool.false_or]
theorem goF_last {acc : Nat} {l : List Int} {lo hi : Int} (h : ¬ cutN l 44 < l.length) :
    goF acc l lo hi = if itemN l lo hi = 0 then 0 else acc ||| itemN l lo hi := by
  unfold goF
  rw [splitN_cut l 44, if_neg h]
  simp only [List.map_cons, List.any_cons, List.foldl_cons, List.map_nil, List.any_nil, List.foldl_nil, Bool.or_false]
  by_cases e : itemN l lo hi = 0
  · rw [if_pos e, if_pos (by rw [e]; rfl)]
  · rw [if_neg e, if_neg (by simpa using e)]
theorem foldl_or_lt (l : List Nat) (acc : Nat) (ha : acc < 18446744073709551616) (hl : ∀ x ∈ l, x < 18446744073709551616) : l.foldl (· ||| ·) acc < 18446744073709551616 := by
  induction l generalizing acc with
  | nil => exact ha
  | cons x l ih => exact ih _ (or_lt ha (hl x (by simp))) fun y hy => hl y (by simp [hy])
theorem fieldN_lt (l : List Int) (lo hi : Int) : fieldN l lo hi < 18446744073709551616 := by
  unfold fieldN goF
  split
  · decide
  · refine foldl_or_lt _ _ (by decide) fun x hx => ?_
    obtain ⟨y, _, rfl⟩ := List.mem_map.1 hx
    exact itemN_lt _ _ _
/-- What stands between blanks. -/
def wordsF : List Int → List Int → List (List Int)
  | [], w => if w = [] then [] else [w]
  | c :: l, w => if c = 32 then (if w = [] then wordsF l [] else w :: wordsF l []) else wordsF l (w ++ [c])
def wordsL (l : List Int) : List (List Int) := wordsF l []
theorem wordsF_cons (c : Int) (l w : List Int) : wordsF (c :: l) w = if c = 32 then (if w = [] then wordsF l [] else w :: wordsF l []) else wordsF l (w ++ [c]) := rfl
theorem wordsF_oct : ∀ (l w : List Int), (∀ x ∈ l, 0 ≤ x ∧ x ≤ 255) → (∀ x ∈ w, 0 ≤ x ∧ x ≤ 255) → ∀ v ∈ wordsF l w, (∀ x ∈ v, 0 ≤ x ∧ x ≤ 255) ∧ v.length ≤ l.length + w.length
  | [], w, hl, hw, v, hv => by
    unfold wordsF at hv
    split at hv
    · cases hv
    · cases List.mem_singleton.1 hv
      exact ⟨hw, by simp⟩
  | c :: l, w, hl, hw, v, hv => by
    have hl' : ∀ x ∈ l, 0 ≤ x ∧ x ≤ 255 := fun x hx => hl x (List.mem_cons_of_mem _ hx)
    rw [wordsF_cons] at hv
    split at hv
    · split at hv
      · have := wordsF_oct l [] hl' (by simp) v hv
        exact ⟨this.1, by have := this.2; simp at this ⊢; omega⟩
      · rcases List.mem_cons.1 hv with rfl | hv
        · exact ⟨hw, by simp⟩
        · have := wordsF_oct l [] hl' (by simp) v hv
          exact ⟨this.1, by have := this.2; simp at this ⊢; omega⟩
    · have := wordsF_oct l (w ++ [c]) hl' (by
        intro x hx
        rcases List.mem_append.1 hx with hx | hx
        · exact hw x hx
        · cases List.mem_singleton.1 hx
          exact hl _ List.mem_cons_self) v hv
      exact ⟨this.1, by have := this.2; simp at this ⊢; omega⟩
theorem wordsL_oct {l : List Int} (hl : ∀ x ∈ l, 0 ≤ x ∧ x ≤ 255) : ∀ v ∈ wordsL l, (∀ x ∈ v, 0 ≤ x ∧ x ≤ 255) ∧ v.length ≤ l.length := by
  intro v hv
  have := wordsF_oct l [] hl (by simp) v hv
  exact ⟨this.1, by simpa using this.2⟩
end Go.Proofs.YtpjmieiajhhbaaaDoor

/- The document's cut and number. -/
namespace Go.Proofs.YtpjmieiajhhbaaaDoor
open Go.RowKit
set_option linter.unusedVariables false
set_option linter.unusedSimpArgs false

theorem str_at (l : List Int) (hl : ∀ x ∈ l, 0 ≤ x ∧ x ≤ 255) (k : Nat) (h : k < (strOfNums l).size) : (((strOfNums l)[k]'h).toNat : Int) = l.getD k 0 := by
  have hk : k < l.length := by rw [strOfNums_size] at h; exact h
  have e : (strOfNums l)[k]'h = UInt8.ofNat (l[k]).toNat := by
    show (strOfNums l).data[k]'_ = _
    simp [strOfNums]
  have hb := hl l[k] (List.getElem_mem hk)
  rw [e]
  simp [List.getD, hk]
  omega
set_option maxHeartbeats 400000 in
theorem cutR_any (l : List Int) (c : Int) (hx : ∀ x ∈ l, 0 ≤ x ∧ x ≤ 255) (hm : l.length ≤ 140737488355328) (w : World) :
    Calls Tryd.prog 67 #[.string (strOfNums l), .int .u8 c] w fun e w' => e = .returned (.int .i64 (cutI l c)) ∧ w' = w := by
  have hsz := strOfNums_size l
  go_enter Tryd.func67, Tryd.ntmps67
  go_wp2
  go_loopw [5] (fun i wr => ∃ k : Nat, k ≤ l.length ∧ i = .int .i64 (k : Int) ∧ Hid (cutN l c = k + cutN (l.drop k) c) ∧ w = wr) (fun i _ => l.length - (intOf i).toNat)
  case atStart => exact ⟨0, Nat.zero_le _, rfl, by simp [Hid], rfl⟩
  case round =>
    obtain ⟨k, hk, rfl, H, rfl⟩ := hrel
    by_cases hlt : k < l.length
    · have hlt' : (k : Int) < (l.length : Int) := by omega
      have hj : k < (strOfNums l).size := by omega
      have hy := str_at l hx k hj
      obtain ⟨s1, s2⟩ := cutN_step hlt H.out
      have S1 := hid s1
      have S2 := hid s2
      clear s1 s2
      generalize l.getD k 0 = x at *
      by_cases q : x = c
      · have E : Hid (cutI l c = (k : Int)) := by
          unfold Hid cutI
          rw [S1.out q, if_pos hlt]
        have t : (x == c) = true := by simpa using q
        go_wp2
        go_ret
        exact ⟨by rw [E.out]; rfl, rfl⟩
      · have t : (x == c) = false := by simpa using q
        have H2 : Hid (cutN l c = k + 1 + cutN (l.drop (k + 1)) c) := S2.out q
        go_wp2
        exact ⟨⟨k + 1, by omega, by go_num, H2, by first | rfl | trivial⟩, by simp [intOf]; omega⟩
    · have hlt' : ¬ (k : Int) < (l.length : Int) := by omega
      obtain rfl : k = l.length := by omega
      have E : Hid (cutI l c = -1) := by
        have h := H.out
        rw [List.drop_length] at h
        unfold Hid cutI
        rw [if_neg (by rw [h]; unfold cutN; omega)]
      go_wp2
      go_ret
      exact ⟨by rw [E.out]; rfl, rfl⟩
set_option maxHeartbeats 1000000 in
theorem numberR_any (l : List Int) (hx : ∀ x ∈ l, 0 ≤ x ∧ x ≤ 255) (hm : l.length ≤ 140737488355328) (w : World) :
    Calls Tryd.prog 83 #[.string (strOfNums l)] w fun e w' => e = .returned (.int .i64 (numD l)) ∧ w' = w := by
  have hsz := strOfNums_size l
  by_cases h : l.length = 1 ∨ l.length = 2
  · have hat := fun k h => str_at l hx k h
    match l, h with
    | [a], _ =>
      have ha : 0 ≤ a ∧ a ≤ 255 := hx a (by simp)
      have h0 : 0 < (strOfNums [a]).size := by rw [hsz]; simp
      have e0 : (((strOfNums [a])[0]'h0).toNat : Int) = a := hat 0 h0
      have hsz : (strOfNums [a]).size = 1 := hsz
      have E : Hid (numD [a] = if isD a then a - 48 else -1) := rfl
      clear hat hx hm
      generalize strOfNums [a] = S at *
      by_cases q : isD a = true
      · have hq := isD_iff.1 q
        obtain ⟨q0, q1⟩ := hq
        have n0 : ¬ a < 48 := by omega
        have n1 : ¬ 57 < a := by omega
        have E2 : Hid (numD [a] = a - 48) := E.out.trans (if_pos q)
        go_enter Tryd.func83, Tryd.ntmps83
        go_wp2_with fail
        refine wp_loop_rounds 2 ?_
        rw [rounds_succ]
        go_wp2
        rw [rounds_succ]
        go_wp2
        go_ret
        exact ⟨by rw [E2.out]; rfl, rfl⟩
      · have E2 : Hid (numD [a] = -1) := E.out.trans (if_neg q)
        have hq : a < 48 ∨ 57 < a := by have := mt isD_iff.2 q; omega
        go_enter Tryd.func83, Tryd.ntmps83
        go_wp2_with fail
        refine wp_loop_rounds 2 ?_
        rw [rounds_succ]
        by_cases c : a < 48
        · go_wp2
          go_ret
          exact ⟨by rw [E2.out]; rfl, rfl⟩
        · have c2 : 57 < a := by omega
          go_wp2
          go_ret
          exact ⟨by rw [E2.out]; rfl, rfl⟩
    | [a, b], _ =>
      have ha : 0 ≤ a ∧ a ≤ 255 := hx a (by simp)
      have hb : 0 ≤ b ∧ b ≤ 255 := hx b (by simp)
      have h0 : 0 < (strOfNums [a, b]).size := by rw [hsz]; simp
      have h1 : 1 < (strOfNums [a, b]).size := by rw [hsz]; simp
      have e0 : (((strOfNums [a, b])[0]'h0).toNat : Int) = a := hat 0 h0
      have e1 : (((strOfNums [a, b])[1]'h1).toNat : Int) = b := hat 1 h1
      have hsz : (strOfNums [a, b]).size = 2 := hsz
      have E : Hid (numD [a, b] = if isD a && isD b then 10 * (a - 48) + (b - 48) else -1) := rfl
      clear hat hx hm
      generalize strOfNums [a, b] = S at *
      by_cases q : isD a = true
      · have hq := isD_iff.1 q
        obtain ⟨q0, q1⟩ := hq
        have n0 : ¬ a < 48 := by omega
        have n1 : ¬ 57 < a := by omega
        by_cases r : isD b = true
        · have hr := isD_iff.1 r
          obtain ⟨r0, r1⟩ := hr
          have m0 : ¬ b < 48 := by omega
          have m1 : ¬ 57 < b := by omega
          have E2 : Hid (numD [a, b] = 10 * (a - 48) + (b - 48)) := E.out.trans (if_pos (by rw [q, r]; rfl))
          go_enter Tryd.func83, Tryd.ntmps83
          go_wp2_with fail
          refine wp_loop_rounds 3 ?_
          rw [rounds_succ]
          go_wp2
          rw [rounds_succ]
          go_wp2
          rw [rounds_succ]
          go_wp2
          go_ret
          exact ⟨by rw [E2.out]; rfl, rfl⟩
        · have E2 : Hid (numD [a, b] = -1) := E.out.trans (if_neg (by rw [q, Bool.true_and]; exact r))
          have hq : b < 48 ∨ 57 < b := by have := mt isD_iff.2 r; omega
          go_enter Tryd.func83, Tryd.ntmps83
          go_wp2_with fail
          refine wp_loop_rounds 2 ?_
          rw [rounds_succ]
          go_wp2
          rw [rounds_succ]
          by_cases c : b < 48
          · go_wp2
            go_ret
            exact ⟨by rw [E2.out]; rfl, rfl⟩
          · have c2 : 57 < b := by omega
            go_wp2
            go_ret
            exact ⟨by rw [E2.out]; rfl, rfl⟩
      · have E2 : Hid (numD [a, b] = -1) := E.out.trans (if_neg (by rw [Bool.and_eq_true]; exact fun z => q z.1))
        have hq : a < 48 ∨ 57 < a := by have := mt isD_iff.2 q; omega
        go_enter Tryd.func83, Tryd.ntmps83
        go_wp2_with fail
        refine wp_loop_rounds 2 ?_
        rw [rounds_succ]
        by_cases c : a < 48
        · go_wp2
          go_ret
          exact ⟨by rw [E2.out]; rfl, rfl⟩
        · have c2 : 57 < a := by omega
          go_wp2
          go_ret
          exact ⟨by rw [E2.out]; rfl, rfl⟩
  · have E : Hid (numD l = -1) := by
      match l, h with
      | [], _ => rfl
      | [a], h => exact absurd (Or.inl rfl) h
      | [a, b], h => exact absurd (Or.inr rfl) h
      | _ :: _ :: _ :: _, _ => rfl
    have hl : (l.length : Int) < 1 ∨ 2 < (l.length : Int) := by omega
    go_enter Tryd.func83, Tryd.ntmps83
    by_cases c : (l.length : Int) < 1
    · go_wp2
      go_ret
      exact ⟨by rw [E.out]; rfl, rfl⟩
    · have c2 : 2 < (l.length : Int) := by omega
      go_wp2
      go_ret
      exact ⟨by rw [E.out]; rfl, rfl⟩
end Go.Proofs.YtpjmieiajhhbaaaDoor
