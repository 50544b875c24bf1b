/- Batches as octets, and octets as batches: plain lists. Decode of Encode is the batch; what Decode takes is Encode of it. -/
import Derived.Test.YtgphkddcfcmaiaaFCut
namespace Go.Proofs.Ytgphkddcfcmaiaa
open Go.RowKit SumPlain
set_option linter.unusedVariables false

/-- A change: its key, whether it is gone, its value. -/
structure Chg where
  key : ByteArray
  del : Bool
  val : ByteArray

def kindN (c : Chg) : Int := if c.del then 2 else 1
def textOf (s : ByteArray) : List Int := octets (s.size : Int) ++ nums s
def chgOcts (c : Chg) : List Int := kindN c :: (textOf c.key ++ if c.del then [] else textOf c.val)
def chgsOcts : List Chg → List Int
  | [] => []
  | c :: r => chgOcts c ++ chgsOcts r
def encOf (s : Int) (cs : List Chg) : List Int := octets s ++ (octets (cs.length : Int) ++ chgsOcts cs)

/-- Why a change may not be. -/
def chgErr (c : Chg) : Int :=
  if c.key.size < 1 ∨ 96 < c.key.size then 31 else if 512 < c.val.size then 5 else if c.del = true ∧ c.val.size ≠ 0 then 1 else 0
def chgsErr : List Chg → Int
  | [] => 0
  | c :: r => if chgErr c = 0 then chgsErr r else chgErr c
def checkOf (s : Int) (cs : List Chg) : Int :=
  if s < 1 ∨ 1099511627712 < s then 4 else if cs.length < 1 ∨ 64 < cs.length then 3 else chgsErr cs

/-! ### reading: x is the code of a length above 2^40 -/
def numP (x : Int) (l : List Int) : Except Int (Int × List Int) :=
  if (getOf l).2.2 = 0 then (if 1099511627776 < (getOf l).1 then .error x else .ok ((getOf l).1, l.drop (getOf l).2.1.toNat)) else .error (getOf l).2.2
def textP (x : Int) (l : List Int) : Except Int (ByteArray × List Int) :=
  match numP x l with
  | .error e => .error e
  | .ok (n, r) => if 65536 < n then .error 5 else if (r.length : Int) < n then .error 8 else .ok (strOfNums (r.take n.toNat), r.drop n.toNat)
def chgP (x : Int) (l : List Int) : Except Int (Chg × List Int) :=
  match l with
  | [] => .error 8
  | k :: r => if k = 1 ∨ k = 2 then
      (match textP x r with
      | .error e => .error e
      | .ok (s, r1) => if k = 2 then .ok (⟨s, true, strOfNums []⟩, r1) else
        (match textP x r1 with
        | .error e => .error e
        | .ok (t, r2) => .ok (⟨s, false, t⟩, r2)))
    else .error 22
def chgsP (x : Int) : Nat → List Int → Except Int (List Chg × List Int)
  | 0, l => .ok ([], l)
  | n + 1, l => match chgP x l with
    | .error e => .error e
    | .ok (c, r) => match chgsP x n r with
      | .error e => .error e
      | .ok (cs, q) => .ok (c :: cs, q)
def batchP (x : Int) (l : List Int) : Except Int (Int × List Chg × List Int) :=
  match numP 4 l with
  | .error e => .error e
  | .ok (s, r) => match numP 4 r with
    | .error e => .error e
    | .ok (n, q) => if 64 < n then .error 3 else match chgsP x n.toNat q with
      | .error e => .error e
      | .ok (cs, t) => .ok (s, cs, t)
def readP (x : Int) (l : List Int) : Except Int (Int × List Chg) :=
  match batchP x l with
  | .error e => .error e
  | .ok (s, cs, t) => if t = [] then .ok (s, cs) else .error 23
def decP (x : Int) (l : List Int) : Except Int (Int × List Chg) :=
  match readP x l with
  | .error e => .error e
  | .ok (s, cs) => if checkOf s cs = 0 then .ok (s, cs) else .error (checkOf s cs)

/-! ### which code it is does not matter to what is taken -/
theorem numP_ok (x y : Int) (l : List Int) (r : Int × List Int) (h : numP x l = .ok r) : numP y l = .ok r := by
  unfold numP at *
  split at h
  · rename_i h0
    split at h
    · cases h
    · rename_i hn
      rw [if_pos h0, if_neg hn]
      exact h
  · cases h
theorem textP_ok (x y : Int) (l : List Int) (r : ByteArray × List Int) (h : textP x l = .ok r) : textP y l = .ok r := by
  unfold textP at *
  cases e : numP x l with
  | error c => rw [e] at h; cases h
  | ok v => rw [numP_ok x y l v e]; rw [e] at h; exact h
theorem chgP_ok (x y : Int) (l : List Int) (r : Chg × List Int) (h : chgP x l = .ok r) : chgP y l = .ok r := by
  cases l with
  | nil => cases h
  | cons k q =>
    simp only [chgP] at *
    split at h
    · rename_i hk
      rw [if_pos hk]
      cases e : textP x q with
      | error c => rw [e] at h; cases h
      | ok v =>
        rw [textP_ok x y q v e]
        rw [e] at h
        obtain ⟨s, r1⟩ := v
        simp only at h ⊢
        by_cases h2 : k = 2
        · rw [if_pos h2] at h ⊢; exact h
        · rw [if_neg h2] at h ⊢
          cases e2 : textP x r1 with
          | error c => rw [e2] at h; cases h
          | ok v2 => rw [textP_ok x y r1 v2 e2]; rw [e2] at h; exact h
    · cases h
theorem chgsP_ok (x y : Int) : ∀ (n : Nat) (l : List Int) (r : List Chg × List Int), chgsP x n l = .ok r → chgsP y n l = .ok r
  | 0, l, r, h => h
  | n + 1, l, r, h => by
    simp only [chgsP] at *
    cases e : chgP x l with
    | error c => rw [e] at h; cases h
    | ok v =>
      rw [chgP_ok x y l v e]
      rw [e] at h
      obtain ⟨c, q⟩ := v
      simp only at h ⊢
      cases e2 : chgsP x n q with
      | error c => rw [e2] at h; cases h
      | ok v2 => rw [chgsP_ok x y n q v2 e2]; rw [e2] at h; exact h
theorem batchP_ok (x y : Int) (l : List Int) (r : Int × List Chg × List Int) (h : batchP x l = .ok r) : batchP y l = .ok r := by
  unfold batchP at *
  cases e : numP 4 l with
  | error c => rw [e] at h; cases h
  | ok v =>
    rw [e] at h
    obtain ⟨s, q⟩ := v
    simp only at h ⊢
    cases e1 : numP 4 q with
    | error c => rw [e1] at h; cases h
    | ok v =>
      rw [e1] at h
      obtain ⟨n, q1⟩ := v
      simp only at h ⊢
      by_cases hn : 64 < n
      · rw [if_pos hn] at h; cases h
      · rw [if_neg hn] at h ⊢
        cases e2 : chgsP x n.toNat q1 with
        | error c => rw [e2] at h; cases h
        | ok v2 => rw [chgsP_ok x y _ q1 v2 e2]; rw [e2] at h; exact h
theorem decP_ok (x y : Int) (l : List Int) (r : Int × List Chg) (h : decP x l = .ok r) : decP y l = .ok r := by
  unfold decP readP at *
  cases e : batchP x l with
  | error c => rw [e] at h; cases h
  | ok v => rw [batchP_ok x y l v e]; rw [e] at h; exact h

/-! ### back from octets -/
theorem getOf_octets (n : Int) (h0 : 0 ≤ n) (h1 : n ≤ 18446744073709551615) (r : List Int) : getOf (octets n ++ r) = (n, ((octets n).length : Int), 0) := by
  rw [getRet_inj (getOf_back n h0 h1 r), ← (octets_form n h0 h1).size]

theorem numP_back (x n : Int) (h0 : 0 ≤ n) (h1 : n ≤ 1099511627776) (r : List Int) : numP x (octets n ++ r) = .ok (n, r) := by
  unfold numP
  rw [getOf_octets n h0 (by omega)]
  simp only [if_true]
  rw [if_neg (by omega), Int.toNat_natCast, List.drop_left]

theorem textP_back (x : Int) (s : ByteArray) (h : s.size ≤ 65536) (r : List Int) : textP x (textOf s ++ r) = .ok (s, r) := by
  unfold textP textOf
  rw [List.append_assoc, numP_back x _ (by omega) (by omega)]
  have hl : (nums s).length = s.size := nums_length s
  simp only
  rw [if_neg (by omega), if_neg (by rw [List.length_append]; omega), Int.toNat_natCast, ← hl, List.take_left, List.drop_left, str_nums]

theorem chgErr_ok {c : Chg} (h : chgErr c = 0) : 1 ≤ c.key.size ∧ c.key.size ≤ 96 ∧ c.val.size ≤ 512 ∧ (c.del = true → c.val.size = 0) := by
  unfold chgErr at h
  split at h
  · cases h
  · split at h
    · cases h
    · split at h
      · cases h
      · refine ⟨by omega, by omega, by omega, fun hd => ?_⟩
        rename_i h3
        exact Classical.byContradiction fun e => h3 ⟨hd, e⟩

theorem bytes_nil (s : ByteArray) (h : s.size = 0) : s = strOfNums [] := by
  have e : nums s = [] := List.length_eq_zero_iff.1 (by rw [nums_length]; exact h)
  rw [← str_nums s, e]

theorem chgP_back (x : Int) (c : Chg) (h : chgErr c = 0) (r : List Int) : chgP x (chgOcts c ++ r) = .ok (c, r) := by
  obtain ⟨h1, h2, h3, h4⟩ := chgErr_ok h
  obtain ⟨k, d, v⟩ := c
  simp only at h1 h2 h3 h4
  unfold chgOcts kindN
  simp only [List.cons_append, chgP]
  cases d with
  | true =>
    simp only [if_true, List.append_nil]
    rw [textP_back x k (by omega), if_pos (by simp)]
    simp only
    rw [← bytes_nil v (h4 rfl)]
  | false =>
    simp only [Bool.false_eq_true, if_false]
    rw [List.append_assoc, textP_back x k (by omega), if_pos (by simp)]
    simp only
    rw [if_neg (by decide), textP_back x v (by omega)]

theorem chgsErr_mem : ∀ {cs : List Chg}, chgsErr cs = 0 → ∀ c ∈ cs, chgErr c = 0
  | [], _, c, hc => by cases hc
  | a :: r, h, c, hc => by
    unfold chgsErr at h
    split at h
    · rename_i h0
      rcases List.mem_cons.1 hc with rfl | hc
      · exact h0
      · exact chgsErr_mem h c hc
    · rename_i h0; exact absurd h h0

theorem chgsP_back (x : Int) : ∀ (cs : List Chg) (r : List Int), (∀ c ∈ cs, chgErr c = 0) → chgsP x cs.length (chgsOcts cs ++ r) = .ok (cs, r)
  | [], r, _ => rfl
  | c :: cs, r, h => by
    simp only [List.length_cons, chgsP, chgsOcts]
    rw [List.append_assoc, chgP_back x c (h c (by simp))]
    simp only
    rw [chgsP_back x cs r (fun c hc => h c (by simp [hc]))]

theorem checkOf_ok {s : Int} {cs : List Chg} (h : checkOf s cs = 0) : (1 ≤ s ∧ s ≤ 1099511627712) ∧ (1 ≤ cs.length ∧ cs.length ≤ 64) ∧ ∀ c ∈ cs, chgErr c = 0 := by
  unfold checkOf at h
  split at h
  · cases h
  · split at h
    · cases h
    · exact ⟨by omega, by omega, chgsErr_mem h⟩

theorem decP_back (x s : Int) (cs : List Chg) (h : checkOf s cs = 0) : decP x (encOf s cs) = .ok (s, cs) := by
  obtain ⟨h1, h2, h3⟩ := checkOf_ok h
  unfold decP readP batchP encOf
  rw [numP_back 4 s (by omega) (by omega)]
  simp only
  rw [numP_back 4 _ (by omega) (by omega)]
  simp only
  rw [if_neg (by omega), Int.toNat_natCast]
  have := chgsP_back x cs [] h3
  rw [List.append_nil] at this
  rw [this]
  simp only [if_true]
  rw [if_pos h]

/-! ### and what was taken is these octets -/
theorem numP_again {x : Int} {l : List Int} (hx : ∀ y ∈ l, 0 ≤ y ∧ y ≤ 255) {n : Int} {r : List Int} (h : numP x l = .ok (n, r)) : 0 ≤ n ∧ n ≤ 1099511627776 ∧ l = octets n ++ r ∧ r.length ≤ l.length := by
  unfold numP at h
  split at h
  · rename_i h0
    split at h
    · cases h
    · rename_i hn
      rcases get_says l hx with hg | hg | ⟨m, j, hg, n0, n1, j1, jl, ho, j9⟩
      · rw [getRet_inj hg] at h0; cases h0
      · rw [getRet_inj hg] at h0; cases h0
      · rw [getRet_inj hg] at h hn
        simp only [Int.toNat_natCast, Except.ok.injEq, Prod.mk.injEq] at h hn
        obtain ⟨rfl, rfl⟩ := h
        refine ⟨n0, by omega, ?_, by rw [List.length_drop]; omega⟩
        rw [ho, List.take_append_drop]
  · cases h

theorem textP_again {x : Int} {l : List Int} (hx : ∀ y ∈ l, 0 ≤ y ∧ y ≤ 255) {s : ByteArray} {r : List Int} (h : textP x l = .ok (s, r)) : s.size ≤ 65536 ∧ l = textOf s ++ r := by
  unfold textP at h
  cases e : numP x l with
  | error c => rw [e] at h; cases h
  | ok v =>
    rw [e] at h
    obtain ⟨n, q⟩ := v
    obtain ⟨n0, n1, hl, _⟩ := numP_again hx e
    simp only at h
    split at h
    · cases h
    · split at h
      · cases h
      · simp only [Except.ok.injEq, Prod.mk.injEq] at h
        obtain ⟨rfl, rfl⟩ := h
        have hq : ∀ y ∈ q.take n.toNat, 0 ≤ y ∧ y ≤ 255 := fun y hy => hx y (by rw [hl]; exact List.mem_append_right _ (List.mem_of_mem_take hy))
        have hs : (strOfNums (q.take n.toNat)).size = n.toNat := by
          rw [← nums_length, nums_str _ hq, List.length_take]; omega
        refine ⟨by omega, ?_⟩
        unfold textOf
        rw [hs, nums_str _ hq, List.append_assoc, List.take_append_drop, Int.toNat_of_nonneg n0, hl]

theorem all_tail {l r : List Int} {p : List Int} (h : ∀ y ∈ l, 0 ≤ y ∧ y ≤ 255) (e : l = p ++ r) : ∀ y ∈ r, 0 ≤ y ∧ y ≤ 255 := fun y hy => h y (by rw [e]; exact List.mem_append_right _ hy)

theorem chgP_again {x : Int} {l : List Int} (hx : ∀ y ∈ l, 0 ≤ y ∧ y ≤ 255) {c : Chg} {r : List Int} (h : chgP x l = .ok (c, r)) : l = chgOcts c ++ r := by
  cases l with
  | nil => cases h
  | cons k q =>
    simp only [chgP] at h
    split at h
    · rename_i hk
      have hq : ∀ y ∈ q, 0 ≤ y ∧ y ≤ 255 := fun y hy => hx y (by simp [hy])
      cases e : textP x q with
      | error c => rw [e] at h; cases h
      | ok v =>
        rw [e] at h
        obtain ⟨s, r1⟩ := v
        obtain ⟨_, e1⟩ := textP_again hq e
        simp only at h
        split at h
        · simp only [Except.ok.injEq, Prod.mk.injEq] at h
          obtain ⟨rfl, rfl⟩ := h
          rename_i h2
          simp [chgOcts, kindN, h2, e1]
        · cases e2 : textP x r1 with
          | error c => rw [e2] at h; cases h
          | ok v2 =>
            rw [e2] at h
            obtain ⟨t, r2⟩ := v2
            obtain ⟨_, e3⟩ := textP_again (all_tail hq e1) e2
            simp only [Except.ok.injEq, Prod.mk.injEq] at h
            obtain ⟨rfl, rfl⟩ := h
            rename_i h2
            have : k = 1 := by omega
            simp [chgOcts, kindN, this, e1, e3]
    · cases h

theorem chgsP_again {x : Int} : ∀ {n : Nat} {l : List Int}, (∀ y ∈ l, 0 ≤ y ∧ y ≤ 255) → ∀ {cs : List Chg} {r : List Int}, chgsP x n l = .ok (cs, r) → l = chgsOcts cs ++ r ∧ cs.length = n
  | 0, l, hx, cs, r, h => by
    simp only [chgsP, Except.ok.injEq, Prod.mk.injEq] at h
    obtain ⟨rfl, rfl⟩ := h
    exact ⟨rfl, rfl⟩
  | n + 1, l, hx, cs, r, h => by
    simp only [chgsP] at h
    cases e : chgP x l with
    | error c => rw [e] at h; cases h
    | ok v =>
      rw [e] at h
      obtain ⟨c, q⟩ := v
      have e1 := chgP_again hx e
      simp only at h
      cases e2 : chgsP x n q with
      | error c => rw [e2] at h; cases h
      | ok v2 =>
        rw [e2] at h
        obtain ⟨cs', q'⟩ := v2
        obtain ⟨e3, e4⟩ := chgsP_again (all_tail hx e1) e2
        simp only [Except.ok.injEq, Prod.mk.injEq] at h
        obtain ⟨rfl, rfl⟩ := h
        refine ⟨?_, by simp [e4]⟩
        rw [e1, e3]
        simp [chgsOcts]

theorem decP_again {x : Int} {l : List Int} (hx : ∀ y ∈ l, 0 ≤ y ∧ y ≤ 255) {s : Int} {cs : List Chg} (h : decP x l = .ok (s, cs)) : l = encOf s cs ∧ checkOf s cs = 0 := by
  unfold decP readP batchP at h
  cases e : numP 4 l with
  | error c => rw [e] at h; cases h
  | ok v =>
    rw [e] at h
    obtain ⟨s', q⟩ := v
    obtain ⟨_, _, e1, _⟩ := numP_again hx e
    simp only at h
    have hq := all_tail hx e1
    cases f : numP 4 q with
    | error c => rw [f] at h; cases h
    | ok v =>
      rw [f] at h
      obtain ⟨n, q1⟩ := v
      obtain ⟨n0, _, f1, _⟩ := numP_again hq f
      simp only at h
      by_cases hn : 64 < n
      · rw [if_pos hn] at h; cases h
      · rw [if_neg hn] at h
        cases g : chgsP x n.toNat q1 with
        | error c => rw [g] at h; cases h
        | ok v2 =>
          rw [g] at h
          obtain ⟨cs', t⟩ := v2
          obtain ⟨g1, g2⟩ := chgsP_again (all_tail hq f1) g
          simp only at h
          by_cases ht : t = []
          · subst ht
            rw [if_pos rfl] at h
            simp only at h
            split at h
            · rename_i hc
              simp only [Except.ok.injEq, Prod.mk.injEq] at h
              obtain ⟨rfl, rfl⟩ := h
              refine ⟨?_, hc⟩
              have hn2 : (n : Int) = (cs'.length : Int) := by omega
              rw [e1, f1, g1, hn2]
              simp [encOf]
            · cases h
          · rw [if_neg ht] at h
            cases h

/-! ### octets -/
theorem octets_octet (n : Int) (h0 : 0 ≤ n) (h1 : n ≤ 18446744073709551615) : ∀ y ∈ octets n, 0 ≤ y ∧ y ≤ 255 := fun y hy => (octets_form n h0 h1).octet y hy
theorem kindN_octet (c : Chg) : 1 ≤ kindN c ∧ kindN c ≤ 2 := by unfold kindN; split <;> omega
theorem textOf_octet (s : ByteArray) (h : s.size ≤ 65536) : ∀ y ∈ textOf s, 0 ≤ y ∧ y ≤ 255 := by
  intro y hy
  rcases List.mem_append.1 hy with h1 | h1
  · exact octets_octet _ (by omega) (by omega) y h1
  · exact nums_octet s y h1
theorem chgOcts_octet (c : Chg) (h : chgErr c = 0) : ∀ y ∈ chgOcts c, 0 ≤ y ∧ y ≤ 255 := by
  obtain ⟨_, h2, h3, _⟩ := chgErr_ok h
  intro y hy
  rcases List.mem_cons.1 hy with rfl | hy
  · have := kindN_octet c; omega
  · rcases List.mem_append.1 hy with h1 | h1
    · exact textOf_octet _ (by omega) y h1
    · cases hd : c.del with
      | true => rw [hd] at h1; simp at h1
      | false => rw [hd] at h1; simp at h1; exact textOf_octet _ (by omega) y h1
theorem chgsOcts_octet : ∀ (cs : List Chg), (∀ c ∈ cs, chgErr c = 0) → ∀ y ∈ chgsOcts cs, 0 ≤ y ∧ y ≤ 255
  | [], _, y, hy => by cases hy
  | c :: r, h, y, hy => by
    rcases List.mem_append.1 hy with h1 | h1
    · exact chgOcts_octet c (h c (by simp)) y h1
    · exact chgsOcts_octet r (fun c hc => h c (by simp [hc])) y h1
theorem textOf_len (s : ByteArray) (h : s.size ≤ 65536) : (textOf s).length ≤ 9 + s.size := by
  unfold textOf
  rw [List.length_append, nums_length]
  have := octets_len (s.size : Int) (by omega) (by omega)
  omega
theorem chgOcts_len (c : Chg) (h : chgErr c = 0) : (chgOcts c).length ≤ 627 := by
  obtain ⟨_, h2, h3, _⟩ := chgErr_ok h
  have h1 := textOf_len c.key (by omega)
  have h4 := textOf_len c.val (by omega)
  unfold chgOcts
  rw [List.length_cons, List.length_append]
  split
  · simp; omega
  · omega
theorem chgsOcts_len : ∀ (cs : List Chg), (∀ c ∈ cs, chgErr c = 0) → (chgsOcts cs).length ≤ 627 * cs.length
  | [], _ => by simp [chgsOcts]
  | c :: r, h => by
    have h1 := chgOcts_len c (h c (by simp))
    have h2 := chgsOcts_len r (fun c hc => h c (by simp [hc]))
    simp only [chgsOcts, List.length_append, List.length_cons]
    omega
theorem encOf_len (s : Int) (cs : List Chg) (h : checkOf s cs = 0) : (encOf s cs).length ≤ 65536 := by
  obtain ⟨h1, h2, h3⟩ := checkOf_ok h
  have h4 := chgsOcts_len cs h3
  have h5 := octets_len s (by omega) (by omega)
  have h6 := octets_len (cs.length : Int) (by omega) (by omega)
  unfold encOf
  rw [List.length_append, List.length_append]
  omega
theorem encOf_octet (s : Int) (cs : List Chg) (h : checkOf s cs = 0) : ∀ y ∈ encOf s cs, 0 ≤ y ∧ y ≤ 255 := by
  obtain ⟨h1, h2, h3⟩ := checkOf_ok h
  intro y hy
  rcases List.mem_append.1 hy with h | h
  · exact octets_octet _ (by omega) (by omega) y h
  · rcases List.mem_append.1 h with h | h
    · exact octets_octet _ (by omega) (by omega) y h
    · exact chgsOcts_octet cs h3 y h

/-! ### replayed -/
/-- The batch of the record at the beginning, and the record's octets. -/
def firstP (x : Int) (b : List Int) : Option (Int × List Chg × Nat) :=
  if (fget b).2.2.2 = 0 ∧ (fget b).1 = 1 then
    (match decP x (fget b).2.1 with
    | .error _ => none
    | .ok (s, cs) => some (s, cs, (fget b).2.2.1.toNat))
  else none
def replF (x : Int) : Nat → Option Int → List Int → List (Int × List Chg × Nat)
  | 0, _, _ => []
  | f + 1, nx, b => match firstP x b with
    | none => []
    | some (s, cs, n) => if nx = none ∨ nx = some s then (s, cs, n) :: replF x f (some (s + (cs.length : Int))) (b.drop n) else []
def replOf (x : Int) (b : List Int) : List (Int × List Chg × Nat) := replF x (b.length + 1) none b
def sizeR : List (Int × List Chg × Nat) → Nat
  | [] => 0
  | g :: r => g.2.2 + sizeR r

theorem firstP_eq (x y : Int) (b : List Int) : firstP x b = firstP y b := by
  unfold firstP
  split
  · cases e : decP x (fget b).2.1 with
    | ok v => rw [decP_ok x y _ v e]
    | error c =>
      cases e2 : decP y (fget b).2.1 with
      | ok v => rw [decP_ok y x _ v e2] at e; cases e
      | error c2 => rfl
  · rfl
theorem replF_eq (x y : Int) : ∀ (f : Nat) (nx : Option Int) (b : List Int), replF x f nx b = replF y f nx b
  | 0, _, _ => rfl
  | f + 1, nx, b => by
    simp only [replF]
    rw [firstP_eq x y b]
    cases firstP y b with
    | none => rfl
    | some v => simp only; rw [replF_eq x y f]
theorem replOf_eq (x y : Int) (b : List Int) : replOf x b = replOf y b := replF_eq x y _ _ _

theorem firstP_some {x : Int} {b : List Int} (hx : ∀ y ∈ b, 0 ≤ y ∧ y ≤ 255) {s : Int} {cs : List Chg} {n : Nat} (h : firstP x b = some (s, cs, n)) :
    6 ≤ n ∧ n ≤ b.length ∧ (fget b).2.2.1 = (n : Int) ∧ (fget b).2.2.2 = 0 ∧ (fget b).1 = 1 ∧ decP x (fget b).2.1 = .ok (s, cs) ∧ checkOf s cs = 0 := by
  unfold firstP at h
  split at h
  · rename_i hk
    obtain ⟨m, hm, h6, hb, _, ho, _⟩ := fget_ok b hx hk.1
    cases e : decP x (fget b).2.1 with
    | error c => rw [e] at h; cases h
    | ok v =>
      rw [e] at h
      obtain ⟨s', cs'⟩ := v
      simp only [Option.some.injEq, Prod.mk.injEq] at h
      obtain ⟨rfl, rfl, rfl⟩ := h
      rw [hm, Int.toNat_natCast]
      exact ⟨h6, hb, rfl, hk.1, hk.2, rfl, (decP_again ho e).2⟩
  · cases h

/-- A record of a batch that may be is read as it. -/
theorem firstP_back (x s : Int) (cs : List Chg) (h : checkOf s cs = 0) (more : List Int) : firstP x (frameOf 1 (encOf s cs) ++ more) = some (s, cs, (frameOf 1 (encOf s cs)).length) := by
  unfold firstP
  rw [fget_back 1 (encOf s cs) more (encOf_len s cs h)]
  simp only [and_self, if_true, decP_back x s cs h, Int.toNat_natCast]

/-- Where a replay stands: pre was told, off octets, f rounds are left. -/
def ReplAt (x : Int) (b : List Int) (pre : List (Int × List Chg × Nat)) (nx : Option Int) (off f : Nat) : Prop :=
  replOf x b = pre ++ replF x f nx (b.drop off) ∧ sizeR pre = off ∧ off ≤ b.length ∧ b.length - off < f
theorem ReplAt.start (x : Int) (b : List Int) : ReplAt x b [] none 0 (b.length + 1) := ⟨by simp [replOf], rfl, Nat.zero_le _, by omega⟩
theorem sizeR_append : ∀ (a b : List (Int × List Chg × Nat)), sizeR (a ++ b) = sizeR a + sizeR b
  | [], b => by simp [sizeR]
  | g :: r, b => by simp only [List.cons_append, sizeR, sizeR_append r b]; omega
theorem ReplAt.ends {x : Int} {b : List Int} {pre : List (Int × List Chg × Nat)} {nx : Option Int} {off f : Nat} (h : ReplAt x b pre nx off f) (he : firstP x (b.drop off) = none) : replOf x b = pre ∧ sizeR (replOf x b) = off := by
  obtain ⟨h1, h2, h3, h4⟩ := h
  obtain ⟨f', rfl⟩ : ∃ f', f = f' + 1 := ⟨f - 1, by omega⟩
  simp only [replF, he, List.append_nil] at h1
  rw [h1]
  exact ⟨rfl, h2⟩
theorem ReplAt.stops {x : Int} {b : List Int} {pre : List (Int × List Chg × Nat)} {nx : Option Int} {off f : Nat} (h : ReplAt x b pre nx off f) {s : Int} {cs : List Chg} {n : Nat} (he : firstP x (b.drop off) = some (s, cs, n)) (hs : ¬ (nx = none ∨ nx = some s)) : replOf x b = pre ∧ sizeR (replOf x b) = off := by
  obtain ⟨h1, h2, h3, h4⟩ := h
  obtain ⟨f', rfl⟩ : ∃ f', f = f' + 1 := ⟨f - 1, by omega⟩
  simp only [replF, he, if_neg hs, List.append_nil] at h1
  rw [h1]
  exact ⟨rfl, h2⟩
theorem ReplAt.goes {x : Int} {b : List Int} (hx : ∀ y ∈ b, 0 ≤ y ∧ y ≤ 255) {pre : List (Int × List Chg × Nat)} {nx : Option Int} {off f : Nat} (h : ReplAt x b pre nx off f) {s : Int} {cs : List Chg} {n : Nat} (he : firstP x (b.drop off) = some (s, cs, n)) (hs : nx = none ∨ nx = some s) :
    ReplAt x b (pre ++ [(s, cs, n)]) (some (s + (cs.length : Int))) (off + n) (f - 1) ∧ 6 ≤ n ∧ off + n ≤ b.length := by
  obtain ⟨h1, h2, h3, h4⟩ := h
  obtain ⟨f', rfl⟩ : ∃ f', f = f' + 1 := ⟨f - 1, by omega⟩
  obtain ⟨g1, g2, _⟩ := firstP_some (fun y hy => hx y (List.mem_of_mem_drop hy)) he
  rw [List.length_drop] at g2
  simp only [replF, he, if_pos hs] at h1
  refine ⟨⟨?_, ?_, by omega, by omega⟩, g1, by omega⟩
  · rw [h1, List.drop_drop]
    simp
  · rw [sizeR_append, h2]
    simp [sizeR]

/-- The batches of gs stand one behind the other, from nx on. -/
def Row : Option Int → List (Int × List Chg) → Prop
  | _, [] => True
  | nx, g :: r => (nx = none ∨ nx = some g.1) ∧ checkOf g.1 g.2 = 0 ∧ Row (some (g.1 + (g.2.length : Int))) r
def recOf (g : Int × List Chg) : Int × List Int := (1, encOf g.1 g.2)
def tripB (g : Int × List Chg) : Int × List Chg × Nat := (g.1, g.2, (frameOf 1 (encOf g.1 g.2)).length)
theorem Row.ok : ∀ {nx : Option Int} {gs : List (Int × List Chg)}, Row nx gs → ∀ g ∈ gs, checkOf g.1 g.2 = 0
  | _, [], _, g, hg => by cases hg
  | nx, a :: r, h, g, hg => by
    rcases List.mem_cons.1 hg with rfl | hg
    · exact h.2.1
    · exact Row.ok h.2.2 g hg
theorem Row.okRec {nx : Option Int} {gs : List (Int × List Chg)} (h : Row nx gs) : ∀ q ∈ gs.map recOf, OkRec q := by
  intro q hq
  obtain ⟨g, hg, rfl⟩ := List.mem_map.1 hq
  have := h.ok g hg
  exact ⟨⟨by simp [recOf], by simp [recOf]⟩, encOf_len _ _ this, encOf_octet _ _ this⟩

theorem firstP_none {x : Int} {b : List Int} (h : (fget b).2.2.2 ≠ 0) : firstP x b = none := by
  unfold firstP
  rw [if_neg (fun e => h e.1)]

/-- What was added and lies whole ahead of the cut is replayed, nothing else. -/
theorem replF_cut (x : Int) : ∀ (gs : List (Int × List Chg)) (nx : Option Int) (m f : Nat), Row nx gs → m ≤ (catF (gs.map recOf)).length → m < f →
    replF x f nx ((catF (gs.map recOf)).take m) = (gs.take (cntF (gs.map recOf) m)).map tripB
  | [], nx, m, f, _, hm, hf => by
    obtain ⟨f', rfl⟩ : ∃ f', f = f' + 1 := ⟨f - 1, by omega⟩
    simp only [List.map_nil, catF, List.take_nil, cntF, replF]
    rw [firstP_none fget_none]
  | g :: r, nx, m, f, hrow, hm, hf => by
    obtain ⟨f', rfl⟩ : ∃ f', f = f' + 1 := ⟨f - 1, by omega⟩
    obtain ⟨hn, hc, hr⟩ := hrow
    have hF := frame_len 1 (encOf g.1 g.2)
    simp only [List.map_cons, recOf, catF, List.length_append] at hm
    simp only [List.map_cons, catF, cntF]
    by_cases h : (frameOf (recOf g).1 (recOf g).2).length ≤ m
    · rw [if_pos h]
      replace h : (frameOf 1 (encOf g.1 g.2)).length ≤ m := h
      show replF x (f' + 1) nx (List.take m (frameOf 1 (encOf g.1 g.2) ++ catF (r.map recOf))) = ((g :: r).take (1 + cntF (r.map recOf) (m - (frameOf 1 (encOf g.1 g.2)).length))).map tripB
      rw [List.take_append, List.take_of_length_le h]
      have ih := replF_cut x r (some (g.1 + (g.2.length : Int))) (m - (frameOf 1 (encOf g.1 g.2)).length) f' hr (by omega) (by omega)
      simp only [replF]
      rw [firstP_back x g.1 g.2 hc]
      simp only
      rw [if_pos hn, List.drop_left, Nat.add_comm 1, List.take_succ_cons, List.map_cons]
      rw [ih]
      rfl
    · rw [if_neg h]
      replace h : ¬ (frameOf 1 (encOf g.1 g.2)).length ≤ m := h
      show replF x (f' + 1) nx (List.take m (frameOf 1 (encOf g.1 g.2) ++ catF (r.map recOf))) = ((g :: r).take 0).map tripB
      rw [List.take_append_of_le_length (by omega)]
      simp only [replF]
      rw [firstP_none (fget_cut 1 _ (encOf_len _ _ hc) m (by omega))]
      rfl
theorem replOf_cut (x : Int) (gs : List (Int × List Chg)) (nx : Option Int) (h : Row none gs) (m : Nat) (hm : m ≤ (catF (gs.map recOf)).length) : replOf x ((catF (gs.map recOf)).take m) = (gs.take (cntF (gs.map recOf) m)).map tripB := by
  unfold replOf
  refine replF_cut x gs none m _ h hm ?_
  rw [List.length_take]
  omega
theorem replOf_all (x : Int) (gs : List (Int × List Chg)) (h : Row none gs) : replOf x (catF (gs.map recOf)) = gs.map tripB := by
  have := replOf_cut x gs none h _ (Nat.le_refl _)
  rw [List.take_length, cntF_all, List.length_map, List.take_length] at this
  exact this
theorem sizeR_trip : ∀ (gs : List (Int × List Chg)), sizeR (gs.map tripB) = (catF (gs.map recOf)).length
  | [] => rfl
  | g :: r => by simp only [List.map_cons, sizeR, catF, List.length_append, sizeR_trip r, tripB, recOf]

/-- Whatever stands behind: those ahead are told first. -/
theorem replF_pre (x : Int) : ∀ (gs : List (Int × List Chg)) (nx : Option Int) (f : Nat) (more : List Int), Row nx gs → gs.length < f →
    ∃ rest, replF x f nx (catF (gs.map recOf) ++ more) = gs.map tripB ++ rest
  | [], nx, f, more, _, _ => ⟨_, rfl⟩
  | g :: r, nx, f, more, hrow, hf => by
    obtain ⟨f', rfl⟩ : ∃ f', f = f' + 1 := ⟨f - 1, by omega⟩
    obtain ⟨hn, hc, hr⟩ := hrow
    obtain ⟨rest, ih⟩ := replF_pre x r (some (g.1 + (g.2.length : Int))) f' more hr (by simp at hf; omega)
    refine ⟨rest, ?_⟩
    simp only [List.map_cons, catF]
    simp only [recOf, replF]
    rw [List.append_assoc, firstP_back x g.1 g.2 hc]
    simp only
    rw [if_pos hn, List.drop_left]
    rw [ih]
    rfl
end Go.Proofs.Ytgphkddcfcmaiaa
