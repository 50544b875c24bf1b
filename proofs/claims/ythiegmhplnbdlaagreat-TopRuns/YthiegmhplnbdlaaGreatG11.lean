/- Texts of layers 1 to 13, in this order. -/
import Derived.Test.YthiegmhplnbdlaaGreatG07
import Derived.Test.YthiegmhplnbdlaaGreatG10
import Derived.Lib.AppendStr
import Derived.Test.YthiegmhplnbdlaaGreatG09

namespace Go.Proofs.YthiegmhplnbdlaaGreat
open Go.RowKit SumPlain
set_option linter.unusedVariables false
structure Chg where
  key : ByteArray
  del : Bool
  val : ByteArray
def kindN (c : Chg) : Int := if c.del then 2 else 1
def textOf (s : ByteArray) : List Int := octets (s.size : Int) ++ nums s
def chgOcts (c : Chg) : List Int := kindN c :: (textOf c.key ++ if c.del then [] else textOf c.val)
def chgsOcts : List Chg → List Int
  | [] => []
  | c :: r => chgOcts c ++ chgsOcts r
def encOf (s : Int) (cs : List Chg) : List Int := octets s ++ (octets (cs.length : Int) ++ chgsOcts cs)
def chgErr (c : Chg) : Int :=
  if c.key.size < 1 ∨ 96 < c.key.size then 31 else if 512 < c.val.size then 5 else if c.del = true ∧ c.val.size ≠ 0 then 1 else 0
def chgsErr : List Chg → Int
  | [] => 0
  | c :: r => if chgErr c = 0 then chgsErr r else chgErr c
def checkOf (s : Int) (cs : List Chg) : Int :=
  if s < 1 ∨ 1099511627712 < s then 4 else if cs.length < 1 ∨ 64 < cs.length then 3 else chgsErr cs
def numP (x : Int) (l : List Int) : Except Int (Int × List Int) :=
  if (getOf l).2.2 = 0 then (if 1099511627776 < (getOf l).1 then .error x else .ok ((getOf l).1, l.drop (getOf l).2.1.toNat)) else .error (getOf l).2.2
def textP (x : Int) (l : List Int) : Except Int (ByteArray × List Int) :=
  match numP x l with
  | .error e => .error e
  | .ok (n, r) => if 65536 < n then .error 5 else if (r.length : Int) < n then .error 8 else .ok (strOfNums (r.take n.toNat), r.drop n.toNat)
def chgP (x : Int) (l : List Int) : Except Int (Chg × List Int) :=
  match l with
  | [] => .error 8
  | k :: r => if k = 1 ∨ k = 2 then
      (match textP x r with
      | .error e => .error e
      | .ok (s, r1) => if k = 2 then .ok (⟨s, true, strOfNums []⟩, r1) else
        (match textP x r1 with
        | .error e => .error e
        | .ok (t, r2) => .ok (⟨s, false, t⟩, r2)))
    else .error 22
def chgsP (x : Int) : Nat → List Int → Except Int (List Chg × List Int)
  | 0, l => .ok ([], l)
  | n + 1, l => match chgP x l with
    | .error e => .error e
    | .ok (c, r) => match chgsP x n r with
      | .error e => .error e
      | .ok (cs, q) => .ok (c :: cs, q)
def batchP (x : Int) (l : List Int) : Except Int (Int × List Chg × List Int) :=
  match numP 4 l with
  | .error e => .error e
  | .ok (s, r) => match numP 4 r with
    | .error e => .error e
    | .ok (n, q) => if 64 < n then .error 3 else match chgsP x n.toNat q with
      | .error e => .error e
      | .ok (cs, t) => .ok (s, cs, t)
def readPW (x : Int) (l : List Int) : Except Int (Int × List Chg) :=
  match batchP x l with
  | .error e => .error e
  | .ok (s, cs, t) => if t = [] then .ok (s, cs) else .error 23
def decPW (x : Int) (l : List Int) : Except Int (Int × List Chg) :=
  match readPW x l with
  | .error e => .error e
  | .ok (s, cs) => if checkOf s cs = 0 then .ok (s, cs) else .error (checkOf s cs)
theorem numP_back (x n : Int) (h0 : 0 ≤ n) (h1 : n ≤ 1099511627776) (r : List Int) : numP x (octets n ++ r) = .ok (n, r) := by
  unfold numP
  rw [getOf_octets n h0 (by omega)]
  simp only [if_true]
  rw [if_neg (by omega), Int.toNat_natCast, List.drop_left]
theorem textP_back (x : Int) (s : ByteArray) (h : s.size ≤ 65536) (r : List Int) : textP x (textOf s ++ r) = .ok (s, r) := by
  unfold textP textOf
  rw [List.append_assoc, numP_back x _ (by omega) (by omega)]
  have hl : (nums s).length = s.size := nums_length s
  simp only
  rw [if_neg (by omega), if_neg (by rw [List.length_append]; omega), Int.toNat_natCast, ← hl, List.take_left, List.drop_left, str_nums]
theorem chgErr_ok {c : Chg} (h : chgErr c = 0) : 1 ≤ c.key.size ∧ c.key.size ≤ 96 ∧ c.val.size ≤ 512 ∧ (c.del = true → c.val.size = 0) := by
  unfold chgErr at h
  split at h
  · cases h
  · split at h
    · cases h
    · split at h
      · cases h
      · refine ⟨by omega, by omega, by omega, fun hd => ?_⟩
        rename_i h3
        exact Classical.byContradiction fun e => h3 ⟨hd, e⟩
theorem bytes_nil (s : ByteArray) (h : s.size = 0) : s = strOfNums [] := by
  have e : nums s = [] := List.length_eq_zero_iff.1 (by rw [nums_length]; exact h)
  rw [← str_nums s, e]
theorem chgP_back (x : Int) (c : Chg) (h : chgErr c = 0) (r : List Int) : chgP x (chgOcts c ++ r) = .ok (c, r) := by
  obtain ⟨h1, h2, h3, h4⟩ := chgErr_ok h
  obtain ⟨k, d, v⟩ := c
  simp only at h1 h2 h3 h4
  unfold chgOcts kindN
  simp only [List.cons_append, chgP]
  cases d with
  | true =>
    simp only [if_true, List.append_nil]
    rw [textP_back x k (by omega), if_pos (by simp)]
    simp only
    rw [← bytes_nil v (h4 rfl)]
  | false =>
    simp only [Bool.false_eq_true, if_false]
    rw [List.append_assoc, textP_back x k (by omega), if_pos (by simp)]
    simp only
    rw [if_neg (by decide), textP_back x v (by omega)]
theorem chgsErr_mem : ∀ {cs : List Chg}, chgsErr cs = 0 → ∀ c ∈ cs, chgErr c = 0
  | [], _, c, hc => by cases hc
  | a :: r, h, c, hc => by
    unfold chgsErr at h
    split at h
    · rename_i h0
      rcases List.mem_cons.1 hc with rfl | hc
      · exact h0
      · exact chgsErr_mem h c hc
    · rename_i h0; exact absurd h h0
theorem chgsP_back (x : Int) : ∀ (cs : List Chg) (r : List Int), (∀ c ∈ cs, chgErr c = 0) → chgsP x cs.length (chgsOcts cs ++ r) = .ok (cs, r)
  | [], r, _ => rfl
  | c :: cs, r, h => by
    simp only [List.length_cons, chgsP, chgsOcts]
    rw [List.append_assoc, chgP_back x c (h c (by simp))]
    simp only
    rw [chgsP_back x cs r (fun c hc => h c (by simp [hc]))]
theorem checkOf_ok {s : Int} {cs : List Chg} (h : checkOf s cs = 0) : (1 ≤ s ∧ s ≤ 1099511627712) ∧ (1 ≤ cs.length ∧ cs.length ≤ 64) ∧ ∀ c ∈ cs, chgErr c = 0 := by
  unfold checkOf at h
  split at h
  · cases h
  · split at h
    · cases h
    · exact ⟨by omega, by omega, chgsErr_mem h⟩
theorem decP_back (x s : Int) (cs : List Chg) (h : checkOf s cs = 0) : decPW x (encOf s cs) = .ok (s, cs) := by
  obtain ⟨h1, h2, h3⟩ := checkOf_ok h
  unfold decPW readPW batchP encOf
  rw [numP_back 4 s (by omega) (by omega)]
  simp only
  rw [numP_back 4 _ (by omega) (by omega)]
  simp only
  rw [if_neg (by omega), Int.toNat_natCast]
  have := chgsP_back x cs [] h3
  rw [List.append_nil] at this
  rw [this]
  simp only [if_true]
  rw [if_pos h]
theorem numP_again {x : Int} {l : List Int} (hx : ∀ y ∈ l, 0 ≤ y ∧ y ≤ 255) {n : Int} {r : List Int} (h : numP x l = .ok (n, r)) : 0 ≤ n ∧ n ≤ 1099511627776 ∧ l = octets n ++ r ∧ r.length ≤ l.length := by
  unfold numP at h
  split at h
  · rename_i h0
    split at h
    · cases h
    · rename_i hn
      rcases get_says l hx with hg | hg | ⟨m, j, hg, n0, n1, j1, jl, ho, j9⟩
      · rw [getRet_inj hg] at h0; cases h0
      · rw [getRet_inj hg] at h0; cases h0
      · rw [getRet_inj hg] at h hn
        simp only [Int.toNat_natCast, Except.ok.injEq, Prod.mk.injEq] at h hn
        obtain ⟨rfl, rfl⟩ := h
        refine ⟨n0, by omega, ?_, by rw [List.length_drop]; omega⟩
        rw [ho, List.take_append_drop]
  · cases h
theorem textP_again {x : Int} {l : List Int} (hx : ∀ y ∈ l, 0 ≤ y ∧ y ≤ 255) {s : ByteArray} {r : List Int} (h : textP x l = .ok (s, r)) : s.size ≤ 65536 ∧ l = textOf s ++ r := by
  unfold textP at h
  cases e : numP x l with
  | error c => rw [e] at h; cases h
  | ok v =>
    rw [e] at h
    obtain ⟨n, q⟩ := v
    obtain ⟨n0, n1, hl, _⟩ := numP_again hx e
    simp only at h
    split at h
    · cases h
    · split at h
      · cases h
      · simp only [Except.ok.injEq, Prod.mk.injEq] at h
        obtain ⟨rfl, rfl⟩ := h
        have hq : ∀ y ∈ q.take n.toNat, 0 ≤ y ∧ y ≤ 255 := fun y hy => hx y (by rw [hl]; exact List.mem_append_right _ (List.mem_of_mem_take hy))
        have hs : (strOfNums (q.take n.toNat)).size = n.toNat := by
          rw [← nums_length, nums_str _ hq, List.length_take]; omega
        refine ⟨by omega, ?_⟩
        unfold textOf
        rw [hs, nums_str _ hq, List.append_assoc, List.take_append_drop, Int.toNat_of_nonneg n0, hl]
theorem all_tail {l r : List Int} {p : List Int} (h : ∀ y ∈ l, 0 ≤ y ∧ y ≤ 255) (e : l = p ++ r) : ∀ y ∈ r, 0 ≤ y ∧ y ≤ 255 := fun y hy => h y (by rw [e]; exact List.mem_append_right _ hy)
theorem chgP_again {x : Int} {l : List Int} (hx : ∀ y ∈ l, 0 ≤ y ∧ y ≤ 255) {c : Chg} {r : List Int} (h : chgP x l = .ok (c, r)) : l = chgOcts c ++ r := by
  cases l with
  | nil => cases h
  | cons k q =>
    simp only [chgP] at h
    split at h
    · rename_i hk
      have hq : ∀ y ∈ q, 0 ≤ y ∧ y ≤ 255 := fun y hy => hx y (by simp [hy])
      cases e : textP x q with
      | error c => rw [e] at h; cases h
      | ok v =>
        rw [e] at h
        obtain ⟨s, r1⟩ := v
        obtain ⟨_, e1⟩ := textP_again hq e
        simp only at h
        split at h
        · simp only [Except.ok.injEq, Prod.mk.injEq] at h
          obtain ⟨rfl, rfl⟩ := h
          rename_i h2
          simp [chgOcts, kindN, h2, e1]
        · cases e2 : textP x r1 with
          | error c => rw [e2] at h; cases h
          | ok v2 =>
            rw [e2] at h
            obtain ⟨t, r2⟩ := v2
            obtain ⟨_, e3⟩ := textP_again (all_tail hq e1) e2
            simp only [Except.ok.injEq, Prod.mk.injEq] at h
            obtain ⟨rfl, rfl⟩ := h
            rename_i h2
            have : k = 1 := by omega
            simp [chgOcts, kindN, this, e1, e3]
    · cases h
theorem chgsP_again {x : Int} : ∀ {n : Nat} {l : List Int}, (∀ y ∈ l, 0 ≤ y ∧ y ≤ 255) → ∀ {cs : List Chg} {r : List Int}, chgsP x n l = .ok (cs, r) → l = chgsOcts cs ++ r ∧ cs.length = n
  | 0, l, hx, cs, r, h => by
    simp only [chgsP, Except.ok.injEq, Prod.mk.injEq] at h
    obtain ⟨rfl, rfl⟩ := h
    exact ⟨rfl, rfl⟩
  | n + 1, l, hx, cs, r, h => by
    simp only [chgsP] at h
    cases e : chgP x l with
    | error c => rw [e] at h; cases h
    | ok v =>
      rw [e] at h
      obtain ⟨c, q⟩ := v
      have e1 := chgP_again hx e
      simp only at h
      cases e2 : chgsP x n q with
      | error c => rw [e2] at h; cases h
      | ok v2 =>
        rw [e2] at h
        obtain ⟨cs', q'⟩ := v2
        obtain ⟨e3, e4⟩ := chgsP_again (all_tail hx e1) e2
        simp only [Except.ok.injEq, Prod.mk.injEq] at h
        obtain ⟨rfl, rfl⟩ := h
        refine ⟨?_, by simp [e4]⟩
        rw [e1, e3]
        simp [chgsOcts]
theorem decP_again {x : Int} {l : List Int} (hx : ∀ y ∈ l, 0 ≤ y ∧ y ≤ 255) {s : Int} {cs : List Chg} (h : decPW x l = .ok (s, cs)) : l = encOf s cs ∧ checkOf s cs = 0 := by
  unfold decPW readPW batchP at h
  cases e : numP 4 l with
  | error c => rw [e] at h; cases h
  | ok v =>
    rw [e] at h
    obtain ⟨s', q⟩ := v
    obtain ⟨_, _, e1, _⟩ := numP_again hx e
    simp only at h
    have hq := all_tail hx e1
    cases f : numP 4 q with
    | error c => rw [f] at h; cases h
    | ok v =>
      rw [f] at h
      obtain ⟨n, q1⟩ := v
      obtain ⟨n0, _, f1, _⟩ := numP_again hq f
      simp only at h
      by_cases hn : 64 < n
      · rw [if_pos hn] at h; cases h
      · rw [if_neg hn] at h
        cases g : chgsP x n.toNat q1 with
        | error c => rw [g] at h; cases h
        | ok v2 =>
          rw [g] at h
          obtain ⟨cs', t⟩ := v2
          obtain ⟨g1, g2⟩ := chgsP_again (all_tail hq f1) g
          simp only at h
          by_cases ht : t = []
          · subst ht
            rw [if_pos rfl] at h
            simp only at h
            split at h
            · rename_i hc
              simp only [Except.ok.injEq, Prod.mk.injEq] at h
              obtain ⟨rfl, rfl⟩ := h
              refine ⟨?_, hc⟩
              have hn2 : (n : Int) = (cs'.length : Int) := by omega
              rw [e1, f1, g1, hn2]
              simp [encOf]
            · cases h
          · rw [if_neg ht] at h
            cases h
theorem octets_octet (n : Int) (h0 : 0 ≤ n) (h1 : n ≤ 18446744073709551615) : ∀ y ∈ octets n, 0 ≤ y ∧ y ≤ 255 := fun y hy => (octets_form n h0 h1).octet y hy
theorem kindN_octet (c : Chg) : 1 ≤ kindN c ∧ kindN c ≤ 2 := by unfold kindN; split <;> omega
theorem textOf_octet (s : ByteArray) (h : s.size ≤ 65536) : ∀ y ∈ textOf s, 0 ≤ y ∧ y ≤ 255 := by
  intro y hy
  rcases List.mem_append.1 hy with h1 | h1
  · exact octets_octet _ (by omega) (by omega) y h1
  · exact nums_octet s y h1
theorem chgOcts_octet (c : Chg) (h : chgErr c = 0) : ∀ y ∈ chgOcts c, 0 ≤ y ∧ y ≤ 255 := by
  obtain ⟨_, h2, h3, _⟩ := chgErr_ok h
  intro y hy
  rcases List.mem_cons.1 hy with rfl | hy
  · have := kindN_octet c; omega
  · rcases List.mem_append.1 hy with h1 | h1
    · exact textOf_octet _ (by omega) y h1
    · cases hd : c.del with
      | true => rw [hd] at h1; simp at h1
      | false => rw [hd] at h1; simp at h1; exact textOf_octet _ (by omega) y h1
theorem chgsOcts_octet : ∀ (cs : List Chg), (∀ c ∈ cs, chgErr c = 0) → ∀ y ∈ chgsOcts cs, 0 ≤ y ∧ y ≤ 255
  | [], _, y, hy => by cases hy
  | c :: r, h, y, hy => by
    rcases List.mem_append.1 hy with h1 | h1
    · exact chgOcts_octet c (h c (by simp)) y h1
    · exact chgsOcts_octet r (fun c hc => h c (by simp [hc])) y h1
theorem textOf_len (s : ByteArray) (h : s.size ≤ 65536) : (textOf s).length ≤ 9 + s.size := by
  unfold textOf
  rw [List.length_append, nums_length]
  have := octets_len (s.size : Int) (by omega) (by omega)
  omega
theorem chgOcts_len (c : Chg) (h : chgErr c = 0) : (chgOcts c).length ≤ 627 := by
  obtain ⟨_, h2, h3, _⟩ := chgErr_ok h
  have h1 := textOf_len c.key (by omega)
  have h4 := textOf_len c.val (by omega)
  unfold chgOcts
  rw [List.length_cons, List.length_append]
  split
  · simp; omega
  · omega
theorem chgsOcts_len : ∀ (cs : List Chg), (∀ c ∈ cs, chgErr c = 0) → (chgsOcts cs).length ≤ 627 * cs.length
  | [], _ => by simp [chgsOcts]
  | c :: r, h => by
    have h1 := chgOcts_len c (h c (by simp))
    have h2 := chgsOcts_len r (fun c hc => h c (by simp [hc]))
    simp only [chgsOcts, List.length_append, List.length_cons]
    omega
theorem encOf_len (s : Int) (cs : List Chg) (h : checkOf s cs = 0) : (encOf s cs).length ≤ 65536 := by
  obtain ⟨h1, h2, h3⟩ := checkOf_ok h
  have h4 := chgsOcts_len cs h3
  have h5 := octets_len s (by omega) (by omega)
  have h6 := octets_len (cs.length : Int) (by omega) (by omega)
  unfold encOf
  rw [List.length_append, List.length_append]
  omega
theorem encOf_octet (s : Int) (cs : List Chg) (h : checkOf s cs = 0) : ∀ y ∈ encOf s cs, 0 ≤ y ∧ y ≤ 255 := by
  obtain ⟨h1, h2, h3⟩ := checkOf_ok h
  intro y hy
  rcases List.mem_append.1 hy with h | h
  · exact octets_octet _ (by omega) (by omega) y h
  · rcases List.mem_append.1 h with h | h
    · exact octets_octet _ (by omega) (by omega) y h
    · exact chgsOcts_octet cs h3 y h
def firstP (x : Int) (b : List Int) : Option (Int × List Chg × Nat) :=
  if (fget b).2.2.2 = 0 ∧ (fget b).1 = 1 then
    (match decPW x (fget b).2.1 with
    | .error _ => none
    | .ok (s, cs) => some (s, cs, (fget b).2.2.1.toNat))
  else none
def replF (x : Int) : Nat → Option Int → List Int → List (Int × List Chg × Nat)
  | 0, _, _ => []
  | f + 1, nx, b => match firstP x b with
    | none => []
    | some (s, cs, n) => if nx = none ∨ nx = some s then (s, cs, n) :: replF x f (some (s + (cs.length : Int))) (b.drop n) else []
def replOf (x : Int) (b : List Int) : List (Int × List Chg × Nat) := replF x (b.length + 1) none b
def sizeR : List (Int × List Chg × Nat) → Nat
  | [] => 0
  | g :: r => g.2.2 + sizeR r
theorem firstP_some {x : Int} {b : List Int} (hx : ∀ y ∈ b, 0 ≤ y ∧ y ≤ 255) {s : Int} {cs : List Chg} {n : Nat} (h : firstP x b = some (s, cs, n)) :
    6 ≤ n ∧ n ≤ b.length ∧ (fget b).2.2.1 = (n : Int) ∧ (fget b).2.2.2 = 0 ∧ (fget b).1 = 1 ∧ decPW x (fget b).2.1 = .ok (s, cs) ∧ checkOf s cs = 0 := by
  unfold firstP at h
  split at h
  · rename_i hk
    obtain ⟨m, hm, h6, hb, _, ho, _⟩ := fget_ok b hx hk.1
    cases e : decPW x (fget b).2.1 with
    | error c => rw [e] at h; cases h
    | ok v =>
      rw [e] at h
      obtain ⟨s', cs'⟩ := v
      simp only [Option.some.injEq, Prod.mk.injEq] at h
      obtain ⟨rfl, rfl, rfl⟩ := h
      rw [hm, Int.toNat_natCast]
      exact ⟨h6, hb, rfl, hk.1, hk.2, rfl, (decP_again ho e).2⟩
  · cases h
theorem firstP_back (x s : Int) (cs : List Chg) (h : checkOf s cs = 0) (more : List Int) : firstP x (frameOf 1 (encOf s cs) ++ more) = some (s, cs, (frameOf 1 (encOf s cs)).length) := by
  unfold firstP
  rw [fget_back 1 (encOf s cs) more (encOf_len s cs h)]
  simp only [and_self, if_true, decP_back x s cs h, Int.toNat_natCast]
def ReplAt (x : Int) (b : List Int) (pre : List (Int × List Chg × Nat)) (nx : Option Int) (off f : Nat) : Prop :=
  replOf x b = pre ++ replF x f nx (b.drop off) ∧ sizeR pre = off ∧ off ≤ b.length ∧ b.length - off < f
theorem ReplAt.start (x : Int) (b : List Int) : ReplAt x b [] none 0 (b.length + 1) := ⟨by simp [replOf], rfl, Nat.zero_le _, by omega⟩
theorem sizeR_append : ∀ (a b : List (Int × List Chg × Nat)), sizeR (a ++ b) = sizeR a + sizeR b
  | [], b => by simp [sizeR]
  | g :: r, b => by simp only [List.cons_append, sizeR, sizeR_append r b]; omega
theorem ReplAt.ends {x : Int} {b : List Int} {pre : List (Int × List Chg × Nat)} {nx : Option Int} {off f : Nat} (h : ReplAt x b pre nx off f) (he : firstP x (b.drop off) = none) : replOf x b = pre ∧ sizeR (replOf x b) = off := by
  obtain ⟨h1, h2, h3, h4⟩ := h
  obtain ⟨f', rfl⟩ : ∃ f', f = f' + 1 := ⟨f - 1, by omega⟩
  simp only [replF, he, List.append_nil] at h1
  rw [h1]
  exact ⟨rfl, h2⟩
theorem ReplAt.stops {x : Int} {b : List Int} {pre : List (Int × List Chg × Nat)} {nx : Option Int} {off f : Nat} (h : ReplAt x b pre nx off f) {s : Int} {cs : List Chg} {n : Nat} (he : firstP x (b.drop off) = some (s, cs, n)) (hs : ¬ (nx = none ∨ nx = some s)) : replOf x b = pre ∧ sizeR (replOf x b) = off := by
  obtain ⟨h1, h2, h3, h4⟩ := h
  obtain ⟨f', rfl⟩ : ∃ f', f = f' + 1 := ⟨f - 1, by omega⟩
  simp only [replF, he, if_neg hs, List.append_nil] at h1
  rw [h1]
  exact ⟨rfl, h2⟩
theorem ReplAt.goes {x : Int} {b : List Int} (hx : ∀ y ∈ b, 0 ≤ y ∧ y ≤ 255) {pre : List (Int × List Chg × Nat)} {nx : Option Int} {off f : Nat} (h : ReplAt x b pre nx off f) {s : Int} {cs : List Chg} {n : Nat} (he : firstP x (b.drop off) = some (s, cs, n)) (hs : nx = none ∨ nx = some s) :
    ReplAt x b (pre ++ [(s, cs, n)]) (some (s + (cs.length : Int))) (off + n) (f - 1) ∧ 6 ≤ n ∧ off + n ≤ b.length := by
  obtain ⟨h1, h2, h3, h4⟩ := h
  obtain ⟨f', rfl⟩ : ∃ f', f = f' + 1 := ⟨f - 1, by omega⟩
  obtain ⟨g1, g2, _⟩ := firstP_some (fun y hy => hx y (List.mem_of_mem_drop hy)) he
  rw [List.length_drop] at g2
  simp only [replF, he, if_pos hs] at h1
  refine ⟨⟨?_, ?_, by omega, by omega⟩, g1, by omega⟩
  · rw [h1, List.drop_drop]
    simp
  · rw [sizeR_append, h2]
    simp [sizeR]
def Row : Option Int → List (Int × List Chg) → Prop
  | _, [] => True
  | nx, g :: r => (nx = none ∨ nx = some g.1) ∧ checkOf g.1 g.2 = 0 ∧ Row (some (g.1 + (g.2.length : Int))) r
def recOf (g : Int × List Chg) : Int × List Int := (1, encOf g.1 g.2)
def tripB (g : Int × List Chg) : Int × List Chg × Nat := (g.1, g.2, (frameOf 1 (encOf g.1 g.2)).length)
theorem Row.ok : ∀ {nx : Option Int} {gs : List (Int × List Chg)}, Row nx gs → ∀ g ∈ gs, checkOf g.1 g.2 = 0
  | _, [], _, g, hg => by cases hg
  | nx, a :: r, h, g, hg => by
    rcases List.mem_cons.1 hg with rfl | hg
    · exact h.2.1
    · exact Row.ok h.2.2 g hg
theorem Row.okRec {nx : Option Int} {gs : List (Int × List Chg)} (h : Row nx gs) : ∀ q ∈ gs.map recOf, OkRec q := by
  intro q hq
  obtain ⟨g, hg, rfl⟩ := List.mem_map.1 hq
  have := h.ok g hg
  exact ⟨⟨by simp [recOf], by simp [recOf]⟩, encOf_len _ _ this, encOf_octet _ _ this⟩
theorem firstP_none {x : Int} {b : List Int} (h : (fget b).2.2.2 ≠ 0) : firstP x b = none := by
  unfold firstP
  rw [if_neg (fun e => h e.1)]
theorem replF_cut (x : Int) : ∀ (gs : List (Int × List Chg)) (nx : Option Int) (m f : Nat), Row nx gs → m ≤ (catF (gs.map recOf)).length → m < f →
    replF x f nx ((catF (gs.map recOf)).take m) = (gs.take (cntF (gs.map recOf) m)).map tripB
  | [], nx, m, f, _, hm, hf => by
    obtain ⟨f', rfl⟩ : ∃ f', f = f' + 1 := ⟨f - 1, by omega⟩
    simp only [List.map_nil, catF, List.take_nil, cntF, replF]
    rw [firstP_none fget_none]
  | g :: r, nx, m, f, hrow, hm, hf => by
    obtain ⟨f', rfl⟩ : ∃ f', f = f' + 1 := ⟨f - 1, by omega⟩
    obtain ⟨hn, hc, hr⟩ := hrow
    have hF := frame_len 1 (encOf g.1 g.2)
    simp only [List.map_cons, recOf, catF, List.length_append] at hm
    simp only [List.map_cons, catF, cntF]
    by_cases h : (frameOf (recOf g).1 (recOf g).2).length ≤ m
    · rw [if_pos h]
      replace h : (frameOf 1 (encOf g.1 g.2)).length ≤ m := h
      show replF x (f' + 1) nx (List.take m (frameOf 1 (encOf g.1 g.2) ++ catF (r.map recOf))) = ((g :: r).take (1 + cntF (r.map recOf) (m - (frameOf 1 (encOf g.1 g.2)).length))).map tripB
      rw [List.take_append, List.take_of_length_le h]
      have ih := replF_cut x r (some (g.1 + (g.2.length : Int))) (m - (frameOf 1 (encOf g.1 g.2)).length) f' hr (by omega) (by omega)
      simp only [replF]
      rw [firstP_back x g.1 g.2 hc]
      simp only
      rw [if_pos hn, List.drop_left, Nat.add_comm 1, List.take_succ_cons, List.map_cons]
      rw [ih]
      rfl
    · rw [if_neg h]
      replace h : ¬ (frameOf 1 (encOf g.1 g.2)).length ≤ m := h
      show replF x (f' + 1) nx (List.take m (frameOf 1 (encOf g.1 g.2) ++ catF (r.map recOf))) = ((g :: r).take 0).map tripB
      rw [List.take_append_of_le_length (by omega)]
      simp only [replF]
      rw [firstP_none (fget_cut 1 _ (encOf_len _ _ hc) m (by omega))]
      rfl
theorem replOf_cut (x : Int) (gs : List (Int × List Chg)) (nx : Option Int) (h : Row none gs) (m : Nat) (hm : m ≤ (catF (gs.map recOf)).length) : replOf x ((catF (gs.map recOf)).take m) = (gs.take (cntF (gs.map recOf) m)).map tripB := by
  unfold replOf
  refine replF_cut x gs none m _ h hm ?_
  rw [List.length_take]
  omega
theorem replOf_all (x : Int) (gs : List (Int × List Chg)) (h : Row none gs) : replOf x (catF (gs.map recOf)) = gs.map tripB := by
  have := replOf_cut x gs none h _ (Nat.le_refl _)
  rw [List.take_length, cntF_all, List.length_map, List.take_length] at this
  exact this
theorem sizeR_trip : ∀ (gs : List (Int × List Chg)), sizeR (gs.map tripB) = (catF (gs.map recOf)).length
  | [] => rfl
  | g :: r => by simp only [List.map_cons, sizeR, catF, List.length_append, sizeR_trip r, tripB, recOf]
end Go.Proofs.YthiegmhplnbdlaaGreat

namespace Go.Proofs.YthiegmhplnbdlaaGreat
open Go.RowKit SumPlain
set_option linter.unusedVariables false
def crow (c : Chg) : List Value := [.string c.key, .bool c.del, .string c.val]
theorem str_empty (s : ByteArray) (h : s.size = 0) : s.toList = [] := by
  rw [bytes_nil s h, str_list]; rfl
theorem str_full (s : ByteArray) (h : ¬ s.size = 0) : ¬ s.toList = [] := by
  intro e
  apply h
  rw [← str_nums s, str_list] at e
  have e2 : nums s = [] := by simpa using e
  rw [← nums_length, e2]; rfl
set_option maxHeartbeats 1000000 in
theorem chkChange_any (c : Chg) (w : World) : Calls Tryz.prog 22 #[.agg #[.string c.key, .bool c.del, .string c.val]] w fun e w' => e = .returned (.int .i64 (chgErr c)) ∧ Below w.heap.size w w' := by
  obtain ⟨k, d, v⟩ := c
  simp only
  unfold chgErr
  simp only
  by_cases h1 : k.size < 1
  · have a1 : (k.size : Int) < 1 := by omega
    rw [if_pos (.inl h1)]
    go_enter Tryz.func22, Tryz.ntmps22
    go_wp2
    go_ret
    exact ⟨rfl, up_alloc _ _⟩
  have a1 : ¬ (k.size : Int) < 1 := by omega
  by_cases h2 : 96 < k.size
  · have a2 : (96 : Int) < (k.size : Int) := by omega
    rw [if_pos (.inr h2)]
    go_enter Tryz.func22, Tryz.ntmps22
    go_wp2
    go_ret
    exact ⟨rfl, up_alloc _ _⟩
  have a2 : ¬ (96 : Int) < (k.size : Int) := by omega
  rw [if_neg (by omega)]
  by_cases h3 : 512 < v.size
  · have a3 : (512 : Int) < (v.size : Int) := by omega
    rw [if_pos h3]
    go_enter Tryz.func22, Tryz.ntmps22
    go_wp2
    go_ret
    exact ⟨rfl, up_alloc _ _⟩
  have a3 : ¬ (512 : Int) < (v.size : Int) := by omega
  rw [if_neg h3]
  cases d with
  | false =>
    rw [if_neg (by simp)]
    go_enter Tryz.func22, Tryz.ntmps22
    go_wp2
    go_ret
    exact ⟨rfl, up_alloc _ _⟩
  | true =>
    by_cases h4 : v.size = 0
    · have b1 := str_empty v h4
      have b2 : (v.toList == []) = true := by rw [b1]; rfl
      rw [if_neg (by simp [h4])]
      go_enter Tryz.func22, Tryz.ntmps22
      go_wp2
      go_ret
      exact ⟨rfl, up_alloc _ _⟩
    · have b1 := str_full v h4
      have b2 : (v.toList == []) = false := by simp [b1]
      rw [if_pos ⟨rfl, h4⟩]
      go_enter Tryz.func22, Tryz.ntmps22
      go_wp2
      go_ret
      exact ⟨rfl, up_alloc _ _⟩
theorem kindOf_any (c : Chg) (w : World) : Calls Tryz.prog 27 #[.agg #[.string c.key, .bool c.del, .string c.val]] w fun e w' => e = .returned (.int .i64 (kindN c)) ∧ Below w.heap.size w w' := by
  obtain ⟨k, d, v⟩ := c
  unfold kindN
  simp only
  cases d with
  | false =>
    go_enter Tryz.func27, Tryz.ntmps27
    go_wp2
    go_ret
    exact ⟨rfl, up_alloc _ _⟩
  | true =>
    go_enter Tryz.func27, Tryz.ntmps27
    go_wp2
    go_ret
    exact ⟨rfl, up_alloc _ _⟩
def ChgsR (w : World) (v : Value) (cs : List Chg) : Prop := Rws 3 w v (cs.map crow)
theorem ChgsR.up {w w' : World} {v : Value} {cs : List Chg} (h : ChgsR w v cs) (hb : Below w.heap.size w w') : ChgsR w' v cs := Rws.up h hb
theorem ChgsR.len {w : World} {v : Value} {cs : List Chg} (h : ChgsR w v cs) : ∃ a cap, v = .slice a cs.length cap ∧ cs.length ≤ cap ∧ cap ≤ maxLen := by
  obtain ⟨a, cap, e, h1, h2⟩ := Rws.len h
  rw [List.length_map] at e h1
  exact ⟨a, cap, e, h1, h2⟩
theorem ChgsR.at {w : World} {v : Value} {cs : List Chg} (h : ChgsR w v cs) (k : Nat) (hk : k < cs.length) :
    ∃ b off cap c, v = .slice (some ⟨b, off, none⟩) cs.length cap ∧ cs.length ≤ cap ∧ cap ≤ maxLen ∧ cs[k]? = some c ∧ w.cell? ⟨b, off + k * 3, none⟩ = some (.string c.key) ∧ w.cell? ⟨b, off + k * 3 + 1, none⟩ = some (.bool c.del) ∧ w.cell? ⟨b, off + k * 3 + 2, none⟩ = some (.string c.val) := by
  obtain ⟨b, off, cap, e, h1, h2, hc⟩ := Rws.at h k (by rw [List.length_map]; exact hk)
  rw [List.length_map] at e h1
  obtain ⟨c, hcs⟩ : ∃ c, cs[k]? = some c := ⟨_, List.getElem?_eq_getElem hk⟩
  have hg : (cs.map crow).getD k [] = crow c := by simp [List.getD, hcs]
  rw [hg] at hc
  exact ⟨b, off, cap, c, e, h1, h2, hcs, hc 0 _ rfl, hc 1 _ rfl, hc 2 _ rfl⟩
end Go.Proofs.YthiegmhplnbdlaaGreat

namespace Go.Proofs.YthiegmhplnbdlaaGreat
open Go.RowKit SumPlain
set_option linter.unusedVariables false
def Keep5 (w w' : World) : Prop := ∀ (B : Nat) (cs : Array Value) (t : TypeId) (fr : Nat × Nat), w.heap[B]? = some (.cells cs t fr) → t ≠ 5 → w'.heap[B]? = some (.cells cs t fr)
theorem Keep5.refl (w : World) : Keep5 w w := fun _ _ _ _ h _ => h
theorem Keep5.up {w w' : World} (h : Below w.heap.size w w') : Keep5 w w' := fun B cs t fr hb _ => blk_up hb h
theorem Keep5.grown {w w' : World} {base : Nat} {v : Value} {l : List Int} (ho : OwnB w base v l) (hg : w.grownBy w' v.ownBlock) : Keep5 w w' := fun B cs t fr hb ht =>
  blk_grown hb hg (fun e => by
    rcases own_blk_ne ho hb (fun q => ht q.symm) with h | h
    · rw [h] at e; cases e
    · exact h e.symm)
theorem Keep5.trans {a b c : World} (h : Keep5 a b) (k : Keep5 b c) : Keep5 a c := fun B cs t fr hb ht => k B cs t fr (h B cs t fr hb ht) ht
theorem wpList_append_str (w : World) {ops : Array Oper} {rest : List Oper} {o : Oper} {a : Act} {Q : Exit → Act → World → Prop} (hgd : o.guard = none) (s x : Operand)
    (ho : o.op = .call { callee := .builtin .append, args := #[s, x], argTypes := #[25, 9] }) (base : Nat) (v : Value) (l0 : List Int) (hs : a.eval s = v) (hown : OwnB w base v l0)
    (t : ByteArray) (hx : a.eval x = .string t) (hsz : l0.length + t.size ≤ 140737488355328) (hbase : base ≤ w.heap.size)
    (h : ∀ v' w', OwnB w' base v' (l0 ++ nums t) → w.grownBy w' v.ownBlock → wpList Tryz.prog ops Q rest (a.put o.dst v') w') : wpList Tryz.prog ops Q (o :: rest) a w := by
  obtain ⟨i0, hi, hz0, hz1, hz2⟩ := info_some Tryz.info5
  refine Lib.wpList_append_own_string w hgd s x 25 9 ho base 5 i0 Tryz.underlying25 Tryz.underlying9 hi hz0 hz1 hz2 v l0.length _ hs hown t hx (by unfold maxLen; omega) hsz hbase ?_
  intro v' w' h1 h2 _
  refine h v' w' ?_ h2
  unfold OwnB
  rw [List.length_append, nums_length, List.map_append, ← strCells_nums]
  exact h1
set_option maxHeartbeats 1000000 in
theorem appText_any (l : List Int) (v : Value) (s : ByteArray) (w : World) (base : Nat) (hv : OwnB w base v l) (hb : base ≤ w.heap.size) (hs : s.size ≤ 65536) (hl : l.length + 70000 ≤ 140737488355328) :
    Calls Tryz.prog 51 #[v, .string s] w fun e w' => ∃ a n c, e = .returned (.slice a n c) ∧ Hid (OwnB w' base (.slice a n c) (l ++ textOf s)) ∧ Hid (Below base w w') ∧ Hid (Keep5 w w') := by
  obtain ⟨a, n, c, rfl, N0⟩ := own_shape hv
  have HV : Hid (OwnB w base (.slice a n c) l) := hv
  clear hv
  have g3 : IntKind.u64.wrap (s.size : Int) = (s.size : Int) := wrap_u64_id _ (by omega) (by omega)
  have HL : Hid ((octets (s.size : Int)).length ≤ 9) := (octets_len _ (by omega) (by omega)).2
  have HX : Hid (∀ x ∈ octets (s.size : Int), 0 ≤ x ∧ x ≤ 255) := octets_octet _ (by omega) (by omega)
  have HS : Hid (s.size ≤ 65536 ∧ l.length + 70000 ≤ 140737488355328 ∧ base ≤ w.heap.size) := ⟨hs, hl, hb⟩
  have HP : Hid (Calls Tryz.prog 50 #[.int .u64 (s.size : Int)] w fun e w' => ∃ v, e = .returned v ∧ OwnB w' w.heap.size v (octets (s.size : Int)) ∧ Below w.heap.size w w') := put_any _ w (by omega) (by omega)
  clear hs hl hb
  go_enter Tryz.func51, Tryz.ntmps51
  go_wp2_with fail
  refine HP.out.mono ?_
  rintro e w1 ⟨v1, rfl, o1, b1⟩
  obtain ⟨a1, n1, c1, rfl, N1⟩ := own_shape o1
  have O1 : Hid (Octs w1 (.slice a1 n1 c1) (octets (s.size : Int))) := Octs.own o1 HX.out
  have V1 : Hid (OwnB w1 base (.slice a n c) l) := own_up HV.out b1
  have S1 : Hid (w.heap.size ≤ w1.heap.size) := b1.size
  have B1 : Hid (Below w.heap.size w w1) := b1
  clear o1 b1
  go_wp2_with (at_builtin; refine wpList_append_octs _ rfl _ _ rfl base _ l rfl V1.out _ _ rfl O1.out ?c1 ?c2 ?_)
  case c1 => have := HS.out; have := HL.out; omega
  case c2 => have := HS.out; have := S1.out; omega
  intro v2 w2 o2 g2
  obtain ⟨a2, n2, c2, rfl, N2⟩ := own_shape o2
  have O2 : Hid (OwnB w2 base (.slice a2 n2 c2) (l ++ octets (s.size : Int))) := o2
  have B2 : Hid (Below base w w2) := (B1.out.mono HS.out.2.2).grown g2 (by have := HS.out; have := S1.out; omega) (fun j hj => (V1.out.lt j hj).1)
  have K2 : Hid (Keep5 w w2) := (Keep5.up B1.out).trans (Keep5.grown V1.out g2)
  have S2 : Hid (base ≤ w2.heap.size) := Nat.le_trans HS.out.2.2 (Nat.le_trans S1.out g2.size)
  clear o2 g2
  go_wp2_with (at_builtin; refine wpList_append_str _ rfl _ _ rfl base _ _ rfl O2.out s rfl ?d1 S2.out ?_)
  case d1 => have := HS.out; have := HL.out; rw [List.length_append]; omega
  intro v3 w3 o3 g3
  obtain ⟨a3, n3, c3, rfl, N3⟩ := own_shape o3
  have O3 : Hid (OwnB w3 base (.slice a3 n3 c3) (l ++ textOf s)) := by
    unfold Hid textOf
    simpa [List.append_assoc] using o3
  have B3 : Hid (Below base w w3) := B2.out.grown g3 S2.out (fun j hj => (O2.out.lt j hj).1)
  have K3 : Hid (Keep5 w w3) := K2.out.trans (Keep5.grown O2.out g3)
  clear o3 g3
  go_wp2
  go_ret
  exact ⟨_, _, _, rfl, O3, B3, K3⟩
set_option maxHeartbeats 1000000 in
theorem check_anyW (s : Int) (cs : List Chg) (a : Option Addr) (c : Nat) (w : World) (hv : ChgsR w (.slice a cs.length c) cs) :
    Calls Tryz.prog 5 #[.agg #[.int .i64 s, .slice a cs.length c]] w fun e w' => e = .returned (.int .i64 (checkOf s cs)) ∧ Below w.heap.size w w' := by
  have HV : Hid (ChgsR w (.slice a cs.length c) cs) := hv
  clear hv
  unfold checkOf
  by_cases h1 : s < 1
  · rw [if_pos (.inl h1)]
    go_enter Tryz.func5, Tryz.ntmps5
    go_wp2
    go_ret
    exact ⟨rfl, up_alloc _ _⟩
  by_cases h2 : 1099511627712 < s
  · rw [if_pos (.inr h2)]
    go_enter Tryz.func5, Tryz.ntmps5
    go_wp2
    go_ret
    exact ⟨rfl, up_alloc _ _⟩
  rw [if_neg (by omega)]
  by_cases h3 : cs.length < 1
  · have a3 : (cs.length : Int) < 1 := by omega
    rw [if_pos (.inl h3)]
    go_enter Tryz.func5, Tryz.ntmps5
    go_wp2
    go_ret
    exact ⟨rfl, up_alloc _ _⟩
  have a3 : ¬ (cs.length : Int) < 1 := by omega
  by_cases h4 : 64 < cs.length
  · have a4 : (64 : Int) < (cs.length : Int) := by omega
    rw [if_pos (.inr h4)]
    go_enter Tryz.func5, Tryz.ntmps5
    go_wp2
    go_ret
    exact ⟨rfl, up_alloc _ _⟩
  have a4 : ¬ (64 : Int) < (cs.length : Int) := by omega
  rw [if_neg (by omega)]
  clear h3
  go_enter Tryz.func5, Tryz.ntmps5
  go_wp2
  go_loopw [27] (fun i wr => ∃ k : Nat, k ≤ cs.length ∧ i = .int .i64 k ∧ Hid (chgsErr cs = chgsErr (cs.drop k)) ∧ Hid (Below w.heap.size w wr)) (fun i _ => cs.length - (intOf i).toNat)
  case atStart => exact ⟨0, Nat.zero_le _, rfl, rfl, up_alloc _ _⟩
  case round =>
    obtain ⟨k, hk, rfl, HE, HB⟩ := hrel
    by_cases hlt : k < cs.length
    · have hlt' : (k : Int) < (cs.length : Int) := by omega
      obtain ⟨b, off, cap, ch, e, q1, q2, hcs, c0, c1, c2⟩ := (HV.out.up HB.out).at k hlt
      simp at e
      obtain ⟨rfl, rfl⟩ := e
      have HD : Hid (chgsErr (cs.drop k) = if chgErr ch = 0 then chgsErr (cs.drop (k + 1)) else chgErr ch) := by
        have : cs.drop k = ch :: cs.drop (k + 1) := by
          rw [List.drop_eq_getElem_cons hlt]
          congr 1
          rw [List.getElem?_eq_getElem hlt] at hcs
          exact Option.some.inj hcs
        unfold Hid
        rw [this]
        rfl
      clear hcs
      go_wp2_with fail
      refine (chkChange_any ch _).mono ?_
      rintro e w1 ⟨rfl, b1⟩
      have HB1 : Hid (Below w.heap.size w w1) := up_trans (up_al HB.out _) b1
      clear b1
      by_cases hz : chgErr ch = 0
      · have HD2 : Hid (chgsErr cs = chgsErr (cs.drop (k + 1))) := by
          have := HD.out
          rw [if_pos hz] at this
          exact HE.out.trans this
        rw [hz]
        clear HD hz
        go_wp2
        exact ⟨⟨k + 1, hlt, by go_num, HD2, HB1⟩, by simp [intOf]; omega⟩
      · have HD2 : Hid (chgsErr cs = chgErr ch) := by
          have := HD.out
          rw [if_neg hz] at this
          exact HE.out.trans this
        have hz' : (chgErr ch == 0) = false := by simp [hz]
        clear HD
        go_wp2
        go_ret
        exact ⟨ret_int HD2.out.symm, HB1.out⟩
    · have hlt' : ¬ (k : Int) < (cs.length : Int) := by omega
      have HD2 : Hid (chgsErr cs = 0) := by
        have e := HE.out
        rw [List.drop_eq_nil_iff.2 (by omega)] at e
        exact e
      go_wp2
      go_ret
      exact ⟨ret_int HD2.out.symm, HB.out⟩
end Go.Proofs.YthiegmhplnbdlaaGreat
