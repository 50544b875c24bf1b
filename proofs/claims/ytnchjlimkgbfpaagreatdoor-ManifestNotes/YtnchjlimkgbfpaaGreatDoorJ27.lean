/- The texts EMath, EQ, EOct, ELeaf, EChk, in this order. -/
import Derived.Test.YtnchjlimkgbfpaaGreatDoorJ26
import Derived.Test.YtnchjlimkgbfpaaGreatDoorVAgain
import Derived.Test.YtnchjlimkgbfpaaGreatDoorJ02

namespace Go.Proofs.YtnchjlimkgbfpaaGreatDoor
open Go.RowKit
set_option linter.unusedVariables false
set_option maxRecDepth 20000
set_option linter.unusedSimpArgs false
theorem bl_selfM : ∀ l : List UInt8, Op.bytesLess l l = false
  | [] => rfl
  | x :: l => by simp [Op.bytesLess, bl_selfM l]
theorem bl_transM : ∀ a b c : List UInt8, Op.bytesLess a b = true → Op.bytesLess b c = true → Op.bytesLess a c = true
  | _, [], _, h, _ => by simp [Op.bytesLess] at h
  | _, _ :: _, [], _, h => by simp [Op.bytesLess] at h
  | [], _ :: _, _ :: _, _, _ => by simp [Op.bytesLess]
  | x :: a, y :: b, z :: c, h, k => by
    simp only [Op.bytesLess, Bool.or_eq_true, decide_eq_true_eq, Bool.and_eq_true, beq_iff_eq] at h k ⊢
    rcases h with h | ⟨rfl, h⟩
    · rcases k with k | ⟨rfl, k⟩
      · exact .inl (UInt8.lt_trans h k)
      · exact .inl h
    · rcases k with k | ⟨rfl, k⟩
      · exact .inl k
      · exact .inr ⟨rfl, bl_transM a b c h k⟩
theorem bl_totalM : ∀ a b : List UInt8, Op.bytesLess a b = false → Op.bytesLess b a = false → a = b
  | [], [], _, _ => rfl
  | [], _ :: _, h, _ => by simp [Op.bytesLess] at h
  | _ :: _, [], _, h => by simp [Op.bytesLess] at h
  | x :: a, y :: b, h, k => by
    simp only [Op.bytesLess, Bool.or_eq_false_iff, decide_eq_false_iff_not, Bool.and_eq_false_iff, beq_eq_false_iff_ne] at h k
    have e : x = y := UInt8.le_antisymm (UInt8.not_lt.1 k.1) (UInt8.not_lt.1 h.1)
    subst e
    have h2 : Op.bytesLess a b = false := by rcases h.2 with q | q; exact absurd rfl q; exact q
    have k2 : Op.bytesLess b a = false := by rcases k.2 with q | q; exact absurd rfl q; exact q
    rw [bl_totalM a b h2 k2]
structure Me where
  id : Int
  lvl : Int
  cnt : Int
  low : ByteArray
  high : ByteArray
instance : Inhabited Me := ⟨⟨0, 0, 0, ⟨#[]⟩, ⟨#[]⟩⟩⟩
def meV (m : Me) : Value := .agg #[.int .i64 m.id, .int .i64 m.lvl, .int .i64 m.cnt, .string m.low, .string m.high]
def meRow (m : Me) : List Value := [.int .i64 m.id, .int .i64 m.lvl, .int .i64 m.cnt, .string m.low, .string m.high]
def keyM (s : ByteArray) : Bool := decide (1 ≤ (s.size : Int) ∧ (s.size : Int) ≤ 96)
def leM (s t : ByteArray) : Bool := Op.bytesLess s.toList t.toList || (s.toList == t.toList)
def mayM (m : Me) : Bool := decide (1 ≤ m.id ∧ m.id ≤ 2147483647 ∧ 0 ≤ m.lvl ∧ m.lvl ≤ 3 ∧ 1 ≤ m.cnt ∧ m.cnt ≤ 4096) && (keyM m.low && (keyM m.high && leM m.low m.high))
def befM (a b : Me) : Bool := if a.lvl = b.lvl then (if a.lvl = 0 then decide (b.id < a.id) else Op.bytesLess a.low.toList b.low.toList) else decide (a.lvl < b.lvl)
def okM (next : Int) (ahead : List Me) (m : Me) : Bool :=
  mayM m && (decide (m.id < next) && ((match ahead.getLast? with | none => true | some p => befM p m && !(decide (0 < m.lvl) && (decide (p.lvl = m.lvl) && leM m.low p.high))) && ahead.all (fun p => decide (p.id ≠ m.id))))
def allM (next : Int) : List Me → List Me → Bool
  | _, [] => true
  | ahead, m :: r => okM next ahead m && allM next (ahead ++ [m]) r
def chkV (ts : List Me) (seq next : Int) : Bool := decide (ts.length ≤ 256 ∧ 1 ≤ next ∧ next ≤ 2147483647 ∧ 0 ≤ seq ∧ seq ≤ 1099511627776) && allM next [] ts
def errV (ts : List Me) (seq next : Int) : Int := if chkV ts seq next = true then 0 else 9
def dropM (id : Int) (ts : List Me) : List Me := ts.filter (fun m => decide (m.id ≠ id))
def dropsM : List Int → List Me → Option (List Me)
  | [], ts => some ts
  | i :: r, ts => if (dropM i ts).length = ts.length then none else dropsM r (dropM i ts)
def putM (m : Me) : List Me → List Me
  | [] => [m]
  | x :: r => if befM x m = true then x :: putM m r else m :: x :: r
def putsM : List Me → List Me → List Me
  | [], ts => ts
  | m :: r, ts => putsM r (putM m ts)
def appM (ts : List Me) (seq next : Int) (drop : List Int) (add : List Me) (seq' next' : Int) : List Me × Int :=
  if chkV ts seq next = true then
    (match dropsM drop ts with
     | none => ([], 71)
     | some l => if seq' < seq ∨ next' < next then ([], 4) else if 256 < add.length then ([], 9) else if chkV (putsM add l) seq' next' = true then (putsM add l, 0) else ([], 9))
  else ([], 9)
theorem allM_at (next : Int) : ∀ (r ahead : List Me), allM next ahead r = true → ∀ k m, r[k]? = some m → okM next (ahead ++ r.take k) m = true
  | [], ahead, h, k, m, hk => by simp at hk
  | x :: r, ahead, h, 0, m, hk => by
    simp at hk
    subst hk
    simp only [allM, Bool.and_eq_true] at h
    simpa using h.1
  | x :: r, ahead, h, k + 1, m, hk => by
    simp only [allM, Bool.and_eq_true] at h
    have := allM_at next r (ahead ++ [x]) h.2 k m (by simpa using hk)
    simpa using this
theorem allM_of (next : Int) : ∀ (r ahead : List Me), (∀ k m, r[k]? = some m → okM next (ahead ++ r.take k) m = true) → allM next ahead r = true
  | [], ahead, h => rfl
  | x :: r, ahead, h => by
    simp only [allM, Bool.and_eq_true]
    refine ⟨by simpa using h 0 x rfl, allM_of next r _ (fun k m hk => ?_)⟩
    have := h (k + 1) m (by simpa using hk)
    simpa using this
theorem putM_len (m : Me) : ∀ ts, (putM m ts).length = ts.length + 1
  | [] => rfl
  | x :: r => by
    rw [putM]
    by_cases h : befM x m = true
    · rw [if_pos h, List.length_cons, putM_len m r]; rfl
    · rw [if_neg h]; rfl
theorem putM_last (m : Me) : ∀ ts, (∀ x ∈ ts, befM x m = true) → putM m ts = ts ++ [m]
  | [], _ => rfl
  | x :: r, h => by
    rw [putM, if_pos (h x (by simp)), putM_last m r (fun y hy => h y (by simp [hy]))]
    rfl
theorem befM_trans {a b c : Me} (h1 : befM a b = true) (h2 : befM b c = true) : befM a c = true := by
  unfold befM at *
  by_cases e1 : a.lvl = b.lvl
  · rw [if_pos e1] at h1
    by_cases e2 : b.lvl = c.lvl
    · rw [if_pos e2] at h2
      rw [if_pos (e1.trans e2)]
      by_cases z : a.lvl = 0
      · rw [if_pos z] at h1 ⊢
        rw [if_pos (e1 ▸ z)] at h2
        simp only [decide_eq_true_eq] at *
        omega
      · rw [if_neg z] at h1 ⊢
        rw [if_neg (e1 ▸ z)] at h2
        exact bl_transM _ _ _ h1 h2
    · rw [if_neg e2] at h2
      rw [if_neg (by rw [e1]; exact e2)]
      rw [e1]; exact h2
  · rw [if_neg e1] at h1
    simp only [decide_eq_true_eq] at h1
    by_cases e2 : b.lvl = c.lvl
    · rw [if_neg (by omega)]
      simp only [decide_eq_true_eq]
      omega
    · rw [if_neg e2] at h2
      simp only [decide_eq_true_eq] at h2
      rw [if_neg (by omega)]
      simp only [decide_eq_true_eq]
      omega
theorem chk_asc {next : Int} {ts : List Me} (h : allM next [] ts = true) : ∀ (k : Nat) (m : Me), ts[k]? = some m → ∀ x ∈ ts.take k, befM x m = true := by
  intro k
  induction k with
  | zero => intro m _ x hx; simp at hx
  | succ k ih =>
    intro m hm x hx
    have hk : k < ts.length := by have := (List.getElem?_eq_some_iff.1 hm).1; omega
    have hy : ts[k]? = some ts[k] := List.getElem?_eq_getElem hk
    generalize ts[k] = y at hy
    have hok := allM_at next ts [] h (k + 1) m hm
    rw [List.nil_append, List.take_add_one, hy] at hok
    unfold okM at hok
    simp only [Option.toList_some, List.getLast?_append, List.getLast?_singleton, Option.some_or, Bool.and_eq_true] at hok
    have hb : befM y m = true := hok.2.2.1.1
    rw [List.take_add_one, hy] at hx
    rcases List.mem_append.1 hx with q | q
    · exact befM_trans (ih y hy x q) hb
    · simp at q; rw [q]; exact hb
theorem putsM_self {next : Int} : ∀ (r ahead : List Me), allM next [] (ahead ++ r) = true → putsM r ahead = ahead ++ r
  | [], ahead, h => by simp [putsM]
  | m :: r, ahead, h => by
    have hm : (ahead ++ m :: r)[ahead.length]? = some m := by simp
    have ha := chk_asc h ahead.length m hm
    rw [List.take_left] at ha
    rw [putsM, putM_last m ahead ha]
    have := putsM_self r (ahead ++ [m]) (by simpa using h)
    simpa using this
theorem app_whole {ts : List Me} {seq next : Int} (h : chkV ts seq next = true) : appM [] 0 1 [] ts seq next = (ts, 0) := by
  have h0 : chkV [] 0 1 = true := rfl
  have hb := h
  unfold chkV at hb
  simp only [Bool.and_eq_true, decide_eq_true_eq] at hb
  have hp := putsM_self ts [] (by simpa using hb.2)
  unfold appM
  rw [if_pos h0]
  simp only [dropsM]
  rw [if_neg (by omega), if_neg (by omega)]
  simp only [List.nil_append] at hp
  rw [hp, if_pos h]
theorem leM_not {s t : ByteArray} : leM s t = false ↔ Op.bytesLess t.toList s.toList = true := by
  unfold leM
  constructor
  · intro h
    simp only [Bool.or_eq_false_iff, beq_eq_false_iff_ne] at h
    cases q : Op.bytesLess t.toList s.toList
    · exact absurd (bl_totalM _ _ h.1 q) h.2
    · rfl
  · intro h
    simp only [Bool.or_eq_false_iff, beq_eq_false_iff_ne]
    refine ⟨?_, fun e => ?_⟩
    · cases q : Op.bytesLess s.toList t.toList
      · rfl
      · have := bl_transM _ _ _ q h
        rw [bl_selfM] at this
        cases this
    · rw [e, bl_selfM] at h
      cases h
theorem leM_lt {a b c : ByteArray} (h1 : leM a b = true) (h2 : Op.bytesLess b.toList c.toList = true) : Op.bytesLess a.toList c.toList = true := by
  unfold leM at h1
  simp only [Bool.or_eq_true, beq_iff_eq] at h1
  rcases h1 with h1 | h1
  · exact bl_transM _ _ _ h1 h2
  · rw [h1]; exact h2
end Go.Proofs.YtnchjlimkgbfpaaGreatDoor

namespace Go.Proofs.YtnchjlimkgbfpaaGreatDoor
open Go.RowKit
set_option linter.unusedVariables false
set_option maxRecDepth 20000
theorem getRet_injE {l : List Int} {a b c : Int} (h : getRet l = .tuple #[.int .u64 a, .int .i64 b, .int .i64 c]) : getOf l = (a, b, c) := by
  unfold getRet at h
  simp at h
  obtain ⟨h1, h2, h3⟩ := h
  rw [← h1, ← h2, ← h3]
theorem getOf_octets (n : Int) (h0 : 0 ≤ n) (h1 : n ≤ 18446744073709551615) (r : List Int) : getOf (octets n ++ r) = (n, ((octets n).length : Int), 0) := by
  rw [getRet_injE (getOf_back n h0 h1 r), ← (octets_form n h0 h1).size]
def numQ (most code : Int) (l : List Int) : Except Int (Int × List Int) :=
  if (getOf l).2.2 = 0 then (if most < (getOf l).1 then .error code else .ok ((getOf l).1, l.drop (getOf l).2.1.toNat)) else .error (getOf l).2.2
theorem numQ_back (most code n : Int) (h0 : 0 ≤ n) (h1 : n ≤ most) (hm : most ≤ 1099511627776) (r : List Int) : numQ most code (octets n ++ r) = .ok (n, r) := by
  unfold numQ
  rw [getOf_octets n h0 (by omega)]
  simp only [if_true]
  rw [if_neg (by omega), Int.toNat_natCast, List.drop_left]
end Go.Proofs.YtnchjlimkgbfpaaGreatDoor

namespace Go.Proofs.YtnchjlimkgbfpaaGreatDoor
open Go.RowKit
set_option linter.unusedVariables false
set_option maxRecDepth 20000
set_option linter.unusedSimpArgs false
def txtE (s : ByteArray) : List Int := octets (s.size : Int) ++ nums s
def metO (m : Me) : List Int := octets m.id ++ (octets m.lvl ++ (octets m.cnt ++ (txtE m.low ++ txtE m.high)))
def metsO : List Me → List Int
  | [] => []
  | m :: r => metO m ++ metsO r
def idsO : List Int → List Int
  | [] => []
  | i :: r => octets i ++ idsO r
def edO (seq next : Int) (drop : List Int) (add : List Me) : List Int :=
  octets seq ++ (octets next ++ (octets (drop.length : Int) ++ (idsO drop ++ (octets (add.length : Int) ++ metsO add))))
def numE (n : Int) : Bool := decide (0 ≤ n ∧ n ≤ 1099511627776)
def metE (m : Me) : Bool := numE m.id && (numE m.lvl && (numE m.cnt && decide (m.low.size ≤ 96 ∧ m.high.size ≤ 96)))
def encE (seq next : Int) (drop : List Int) (add : List Me) : List Int × Int :=
  if 256 < drop.length ∨ 256 < add.length then ([], 3) else
    if (numE seq && (numE next && (drop.all numE && add.all metE))) = true then (edO seq next drop add, 0) else ([], 1)
def txtP (l : List Int) : Except Int (ByteArray × List Int) :=
  match numQ 1099511627776 1 l with
  | .error e => .error e
  | .ok (n, r) => if 96 < n then .error 1 else if (r.length : Int) < n then .error 8 else .ok (strOfNums (r.take n.toNat), r.drop n.toNat)
def cntQ (l : List Int) : Except Int (Int × List Int) :=
  match numQ 1099511627776 1 l with
  | .error e => .error e
  | .ok (n, r) => if 256 < n then .error 3 else .ok (n, r)
theorem cntQ_back (n : Int) (h0 : 0 ≤ n) (h1 : n ≤ 256) (r : List Int) : cntQ (octets n ++ r) = .ok (n, r) := by
  unfold cntQ
  rw [numQ_back 1099511627776 1 n h0 (by omega) (by omega)]
  simp only
  rw [if_neg (by omega)]
def idsP : Nat → List Int → Except Int (List Int × List Int)
  | 0, l => .ok ([], l)
  | n + 1, l => match numQ 1099511627776 1 l with
    | .error e => .error e
    | .ok (i, r) => match idsP n r with
      | .error e => .error e
      | .ok (is, t) => .ok (i :: is, t)
def metP (l : List Int) : Except Int (Me × List Int) :=
  match numQ 1099511627776 1 l with
  | .error e => .error e
  | .ok (i, l1) => match numQ 1099511627776 1 l1 with
    | .error e => .error e
    | .ok (v, l2) => match numQ 1099511627776 1 l2 with
      | .error e => .error e
      | .ok (c, l3) => match txtP l3 with
        | .error e => .error e
        | .ok (lo, l4) => match txtP l4 with
          | .error e => .error e
          | .ok (hi, l5) => .ok (⟨i, v, c, lo, hi⟩, l5)
def metsP : Nat → List Int → Except Int (List Me × List Int)
  | 0, l => .ok ([], l)
  | n + 1, l => match metP l with
    | .error e => .error e
    | .ok (m, r) => match metsP n r with
      | .error e => .error e
      | .ok (ms, t) => .ok (m :: ms, t)
def decE (l : List Int) : Except Int (Int × Int × List Int × List Me) :=
  match numQ 1099511627776 1 l with
  | .error e => .error e
  | .ok (s, l1) => match numQ 1099511627776 1 l1 with
    | .error e => .error e
    | .ok (x, l2) => match cntQ l2 with
      | .error e => .error e
      | .ok (n, l3) => match idsP n.toNat l3 with
        | .error e => .error e
        | .ok (is, l4) => match cntQ l4 with
          | .error e => .error e
          | .ok (k, l5) => match metsP k.toNat l5 with
            | .error e => .error e
            | .ok (ms, l6) => if l6 = [] then .ok (s, x, is, ms) else .error 23
theorem numE_iff {n : Int} : numE n = true ↔ 0 ≤ n ∧ n ≤ 1099511627776 := by unfold numE; simp
theorem metE_iff {m : Me} : metE m = true ↔ (0 ≤ m.id ∧ m.id ≤ 1099511627776) ∧ (0 ≤ m.lvl ∧ m.lvl ≤ 1099511627776) ∧ (0 ≤ m.cnt ∧ m.cnt ≤ 1099511627776) ∧ m.low.size ≤ 96 ∧ m.high.size ≤ 96 := by
  unfold metE; simp [numE_iff]
theorem txtP_back (s : ByteArray) (h : s.size ≤ 96) (r : List Int) : txtP (txtE s ++ r) = .ok (s, r) := by
  unfold txtP txtE
  rw [List.append_assoc, numQ_back 1099511627776 1 _ (by omega) (by omega) (by omega)]
  have hl : (nums s).length = s.size := nums_length s
  simp only
  rw [if_neg (by omega), if_neg (by rw [List.length_append]; omega), Int.toNat_natCast, ← hl, List.take_left, List.drop_left, str_nums]
theorem idsP_back : ∀ (is : List Int) (r : List Int), (∀ i ∈ is, numE i = true) → idsP is.length (idsO is ++ r) = .ok (is, r)
  | [], r, _ => rfl
  | i :: is, r, h => by
    have hi := numE_iff.1 (h i (by simp))
    rw [List.length_cons, idsP, idsO, List.append_assoc, numQ_back _ 1 i hi.1 hi.2 (by omega)]
    simp only
    rw [idsP_back is r (fun j hj => h j (by simp [hj]))]
theorem metP_back (m : Me) (h : metE m = true) (r : List Int) : metP (metO m ++ r) = .ok (m, r) := by
  obtain ⟨h1, h2, h3, h4, h5⟩ := metE_iff.1 h
  unfold metP metO
  simp only [List.append_assoc]
  rw [numQ_back _ 1 _ h1.1 h1.2 (by omega)]
  simp only
  rw [numQ_back _ 1 _ h2.1 h2.2 (by omega)]
  simp only
  rw [numQ_back _ 1 _ h3.1 h3.2 (by omega)]
  simp only
  rw [txtP_back _ h4]
  simp only
  rw [txtP_back _ h5]
theorem metsP_back : ∀ (ms : List Me) (r : List Int), (∀ m ∈ ms, metE m = true) → metsP ms.length (metsO ms ++ r) = .ok (ms, r)
  | [], r, _ => rfl
  | m :: ms, r, h => by
    rw [List.length_cons, metsP, metsO, List.append_assoc, metP_back m (h m (by simp))]
    simp only
    rw [metsP_back ms r (fun j hj => h j (by simp [hj]))]
theorem encE_zero {s x : Int} {is : List Int} {ms : List Me} : (encE s x is ms).2 = 0 ↔ is.length ≤ 256 ∧ ms.length ≤ 256 ∧ numE s = true ∧ numE x = true ∧ (∀ i ∈ is, numE i = true) ∧ (∀ m ∈ ms, metE m = true) := by
  unfold encE
  by_cases h : 256 < is.length ∨ 256 < ms.length
  · rw [if_pos h]
    refine ⟨fun k => absurd k (by decide), fun k => by omega⟩
  · rw [if_neg h]
    by_cases h2 : (numE s && (numE x && (is.all numE && ms.all metE))) = true
    · rw [if_pos h2]
      refine ⟨fun _ => ?_, fun _ => rfl⟩
      simp only [Bool.and_eq_true, List.all_eq_true] at h2
      exact ⟨by omega, by omega, h2.1, h2.2.1, h2.2.2.1, h2.2.2.2⟩
    · rw [if_neg h2]
      refine ⟨fun k => absurd k (by decide), fun k => absurd ?_ h2⟩
      simp only [Bool.and_eq_true, List.all_eq_true]
      exact ⟨k.2.2.1, k.2.2.2.1, k.2.2.2.2.1, k.2.2.2.2.2⟩
theorem encE_good {s x : Int} {is : List Int} {ms : List Me} (h : (encE s x is ms).2 = 0) : encE s x is ms = (edO s x is ms, 0) := by
  obtain ⟨h1, h2, h3, h4, h5, h6⟩ := encE_zero.1 h
  unfold encE
  rw [if_neg (by omega), if_pos]
  simp only [Bool.and_eq_true, List.all_eq_true]
  exact ⟨h3, h4, h5, h6⟩
theorem encE_bad {s x : Int} {is : List Int} {ms : List Me} (h : (encE s x is ms).2 ≠ 0) : (encE s x is ms).1 = [] := by
  unfold encE at *
  by_cases h1 : 256 < is.length ∨ 256 < ms.length
  · rw [if_pos h1]
  · rw [if_neg h1] at h ⊢
    by_cases h2 : (numE s && (numE x && (is.all numE && ms.all metE))) = true
    · rw [if_pos h2] at h; exact absurd rfl h
    · rw [if_neg h2]
theorem dec_encE {s x : Int} {is : List Int} {ms : List Me} (h : (encE s x is ms).2 = 0) : decE (encE s x is ms).1 = .ok (s, x, is, ms) := by
  obtain ⟨h1, h2, h3, h4, h5, h6⟩ := encE_zero.1 h
  rw [encE_good h]
  have h3' := numE_iff.1 h3
  have h4' := numE_iff.1 h4
  show decE (edO s x is ms) = _
  unfold decE edO
  rw [numQ_back _ 1 s h3'.1 h3'.2 (by omega)]
  simp only
  rw [numQ_back _ 1 x h4'.1 h4'.2 (by omega)]
  simp only
  rw [cntQ_back (is.length : Int) (by omega) (by omega)]
  simp only [Int.toNat_natCast]
  rw [idsP_back is _ h5]
  simp only
  rw [cntQ_back (ms.length : Int) (by omega) (by omega)]
  simp only [Int.toNat_natCast]
  have := metsP_back ms [] h6
  rw [List.append_nil] at this
  rw [this]
  simp
def OctA (l : List Int) : Prop := ∀ y ∈ l, 0 ≤ y ∧ y ≤ 255
theorem OctA.tail {l p r : List Int} (h : OctA l) (e : l = p ++ r) : OctA r := fun y hy => h y (by rw [e]; exact List.mem_append_right _ hy)
theorem numQ_againE {most code : Int} {l : List Int} (hx : OctA l) {n : Int} {r : List Int} (h : numQ most code l = .ok (n, r)) : 0 ≤ n ∧ n ≤ most ∧ l = octets n ++ r := by
  unfold numQ at h
  split at h
  · rename_i h0
    split at h
    · cases h
    · rename_i hn
      rcases get_says l hx with hg | hg | ⟨m, j, hg, n0, n1, j1, jl, ho, j9⟩
      · rw [getRet_injE hg] at h0; cases h0
      · rw [getRet_injE hg] at h0; cases h0
      · rw [getRet_injE hg] at h hn
        simp only [Int.toNat_natCast, Except.ok.injEq, Prod.mk.injEq] at h hn
        obtain ⟨rfl, rfl⟩ := h
        refine ⟨n0, by omega, ?_⟩
        rw [ho, List.take_append_drop]
  · cases h
theorem cntQ_again {l : List Int} (hx : OctA l) {n : Int} {r : List Int} (h : cntQ l = .ok (n, r)) : 0 ≤ n ∧ n ≤ 256 ∧ l = octets n ++ r := by
  unfold cntQ at h
  cases e : numQ 1099511627776 1 l with
  | error c => rw [e] at h; cases h
  | ok v =>
    obtain ⟨m, q⟩ := v
    rw [e] at h
    obtain ⟨n0, n1, hl⟩ := numQ_againE hx e
    simp only at h
    split at h
    · cases h
    · simp only [Except.ok.injEq, Prod.mk.injEq] at h
      obtain ⟨rfl, rfl⟩ := h
      exact ⟨n0, by omega, hl⟩
theorem txtP_again {l : List Int} (hx : OctA l) {s : ByteArray} {r : List Int} (h : txtP l = .ok (s, r)) : s.size ≤ 96 ∧ l = txtE s ++ r := by
  unfold txtP at h
  cases e : numQ 1099511627776 1 l with
  | error c => rw [e] at h; cases h
  | ok v =>
    rw [e] at h
    obtain ⟨n, q⟩ := v
    obtain ⟨n0, n1, hl⟩ := numQ_againE hx e
    simp only at h
    split at h
    · cases h
    rename_i h96
    split at h
    · cases h
    · simp only [Except.ok.injEq, Prod.mk.injEq] at h
      obtain ⟨rfl, rfl⟩ := h
      have hq : ∀ y ∈ q.take n.toNat, 0 ≤ y ∧ y ≤ 255 := fun y hy => hx y (by rw [hl]; exact List.mem_append_right _ (List.mem_of_mem_take hy))
      have hs : (strOfNums (q.take n.toNat)).size = n.toNat := by
        rw [← nums_length, nums_str _ hq, List.length_take]; omega
      refine ⟨by omega, ?_⟩
      unfold txtE
      rw [hs, nums_str _ hq, List.append_assoc, List.take_append_drop, Int.toNat_of_nonneg n0, hl]
theorem idsP_again : ∀ {n : Nat} {l : List Int}, OctA l → ∀ {is r : List Int}, idsP n l = .ok (is, r) → is.length = n ∧ l = idsO is ++ r ∧ ∀ i ∈ is, numE i = true
  | 0, l, hx, is, r, h => by
    simp only [idsP, Except.ok.injEq, Prod.mk.injEq] at h
    obtain ⟨rfl, rfl⟩ := h
    exact ⟨rfl, rfl, by simp⟩
  | n + 1, l, hx, is, r, h => by
    rw [idsP] at h
    cases e : numQ 1099511627776 1 l with
    | error c => rw [e] at h; cases h
    | ok v =>
      obtain ⟨i, q⟩ := v
      rw [e] at h
      obtain ⟨n0, n1, hl⟩ := numQ_againE hx e
      simp only at h
      cases e2 : idsP n q with
      | error c => rw [e2] at h; cases h
      | ok v2 =>
        obtain ⟨js, t⟩ := v2
        rw [e2] at h
        simp only [Except.ok.injEq, Prod.mk.injEq] at h
        obtain ⟨rfl, rfl⟩ := h
        obtain ⟨k1, k2, k3⟩ := idsP_again (hx.tail hl) e2
        refine ⟨by rw [List.length_cons, k1], by rw [hl, k2, idsO, List.append_assoc], fun j hj => ?_⟩
        rcases List.mem_cons.1 hj with rfl | hj
        · exact numE_iff.2 ⟨n0, n1⟩
        · exact k3 j hj
theorem metP_again {l : List Int} (hx : OctA l) {m : Me} {r : List Int} (h : metP l = .ok (m, r)) : metE m = true ∧ l = metO m ++ r := by
  unfold metP at h
  cases e1 : numQ 1099511627776 1 l with
  | error c => rw [e1] at h; cases h
  | ok v1 =>
    obtain ⟨i, l1⟩ := v1
    rw [e1] at h
    obtain ⟨a1, b1, c1⟩ := numQ_againE hx e1
    have x1 := hx.tail c1
    simp only at h
    cases e2 : numQ 1099511627776 1 l1 with
    | error c => rw [e2] at h; cases h
    | ok v2 =>
      obtain ⟨v, l2⟩ := v2
      rw [e2] at h
      obtain ⟨a2, b2, c2⟩ := numQ_againE x1 e2
      have x2 := x1.tail c2
      simp only at h
      cases e3 : numQ 1099511627776 1 l2 with
      | error c => rw [e3] at h; cases h
      | ok v3 =>
        obtain ⟨c, l3⟩ := v3
        rw [e3] at h
        obtain ⟨a3, b3, c3⟩ := numQ_againE x2 e3
        have x3 := x2.tail c3
        simp only at h
        cases e4 : txtP l3 with
        | error c => rw [e4] at h; cases h
        | ok v4 =>
          obtain ⟨lo, l4⟩ := v4
          rw [e4] at h
          obtain ⟨a4, c4⟩ := txtP_again x3 e4
          have x4 := x3.tail c4
          simp only at h
          cases e5 : txtP l4 with
          | error c => rw [e5] at h; cases h
          | ok v5 =>
            obtain ⟨hi, l5⟩ := v5
            rw [e5] at h
            obtain ⟨a5, c5⟩ := txtP_again x4 e5
            simp only [Except.ok.injEq, Prod.mk.injEq] at h
            obtain ⟨rfl, rfl⟩ := h
            refine ⟨metE_iff.2 ⟨⟨a1, b1⟩, ⟨a2, b2⟩, ⟨a3, b3⟩, a4, a5⟩, ?_⟩
            unfold metO
            rw [c1, c2, c3, c4, c5]
            simp only [List.append_assoc]
theorem metsP_again : ∀ {n : Nat} {l : List Int}, OctA l → ∀ {ms : List Me} {r : List Int}, metsP n l = .ok (ms, r) → ms.length = n ∧ l = metsO ms ++ r ∧ ∀ m ∈ ms, metE m = true
  | 0, l, hx, ms, r, h => by
    simp only [metsP, Except.ok.injEq, Prod.mk.injEq] at h
    obtain ⟨rfl, rfl⟩ := h
    exact ⟨rfl, rfl, by simp⟩
  | n + 1, l, hx, ms, r, h => by
    rw [metsP] at h
    cases e : metP l with
    | error c => rw [e] at h; cases h
    | ok v =>
      obtain ⟨m, q⟩ := v
      rw [e] at h
      obtain ⟨hm, hl⟩ := metP_again hx e
      simp only at h
      cases e2 : metsP n q with
      | error c => rw [e2] at h; cases h
      | ok v2 =>
        obtain ⟨js, t⟩ := v2
        rw [e2] at h
        simp only [Except.ok.injEq, Prod.mk.injEq] at h
        obtain ⟨rfl, rfl⟩ := h
        obtain ⟨k1, k2, k3⟩ := metsP_again (hx.tail hl) e2
        refine ⟨by rw [List.length_cons, k1], by rw [hl, k2, metsO, List.append_assoc], fun j hj => ?_⟩
        rcases List.mem_cons.1 hj with rfl | hj
        · exact hm
        · exact k3 j hj
theorem enc_decE {l : List Int} (hx : OctA l) {s x : Int} {is : List Int} {ms : List Me} (h : decE l = .ok (s, x, is, ms)) : encE s x is ms = (l, 0) := by
  unfold decE at h
  cases e1 : numQ 1099511627776 1 l with
  | error c => rw [e1] at h; cases h
  | ok v1 =>
    obtain ⟨s', l1⟩ := v1
    rw [e1] at h
    obtain ⟨a1, b1, c1⟩ := numQ_againE hx e1
    have x1 := hx.tail c1
    simp only at h
    cases e2 : numQ 1099511627776 1 l1 with
    | error c => rw [e2] at h; cases h
    | ok v2 =>
      obtain ⟨x', l2⟩ := v2
      rw [e2] at h
      obtain ⟨a2, b2, c2⟩ := numQ_againE x1 e2
      have x2 := x1.tail c2
      simp only at h
      cases e3 : cntQ l2 with
      | error c => rw [e3] at h; cases h
      | ok v3 =>
        obtain ⟨n, l3⟩ := v3
        rw [e3] at h
        obtain ⟨a3, b3, c3⟩ := cntQ_again x2 e3
        have x3 := x2.tail c3
        simp only at h
        cases e4 : idsP n.toNat l3 with
        | error c => rw [e4] at h; cases h
        | ok v4 =>
          obtain ⟨js, l4⟩ := v4
          rw [e4] at h
          obtain ⟨a4, c4, d4⟩ := idsP_again x3 e4
          have x4 := x3.tail c4
          simp only at h
          cases e5 : cntQ l4 with
          | error c => rw [e5] at h; cases h
          | ok v5 =>
            obtain ⟨k, l5⟩ := v5
            rw [e5] at h
            obtain ⟨a5, b5, c5⟩ := cntQ_again x4 e5
            have x5 := x4.tail c5
            simp only at h
            cases e6 : metsP k.toNat l5 with
            | error c => rw [e6] at h; cases h
            | ok v6 =>
              obtain ⟨ns, l6⟩ := v6
              rw [e6] at h
              obtain ⟨a6, c6, d6⟩ := metsP_again x5 e6
              simp only at h
              by_cases h6 : l6 = []
              · rw [if_pos h6] at h
                simp only [Except.ok.injEq, Prod.mk.injEq] at h
                obtain ⟨rfl, rfl, rfl, rfl⟩ := h
                subst h6
                rw [encE_good (encE_zero.2 ⟨by omega, by omega, numE_iff.2 ⟨a1, b1⟩, numE_iff.2 ⟨a2, b2⟩, d4, d6⟩)]
                have q1 : (js.length : Int) = n := by omega
                have q2 : (ns.length : Int) = k := by omega
                unfold edO
                rw [q1, q2, c1, c2, c3, c4, c5, c6]
                simp only [List.append_nil]
              · rw [if_neg h6] at h; cases h
end Go.Proofs.YtnchjlimkgbfpaaGreatDoor

namespace Go.Proofs.YtnchjlimkgbfpaaGreatDoor
open Go.RowKit
set_option linter.unusedVariables false
set_option maxRecDepth 20000
set_option linter.unusedSimpArgs false
def meObj (m : Me) : Obj := .cells #[.int .i64 m.id, .int .i64 m.lvl, .int .i64 m.cnt, .string m.low, .string m.high] 139
set_option maxRecDepth 100000 in
theorem refBefM_any (a b : Me) (w : World) :
    Calls Tryz.prog 66 #[meV a, meV b] w fun e w' => e = .returned (.bool (befM a b)) ∧ w' = (w.alloc (meObj a)).alloc (meObj b) := by
  obtain ⟨ai, al, ac, alo, ahi⟩ := a
  obtain ⟨bi, bl, bc, blo, bhi⟩ := b
  unfold meV
  go_enter Tryz.func66, Tryz.ntmps66
  go_wp2
  all_goals
    go_ret
    refine ⟨?_, rfl⟩
    simp_all [befM]
set_option maxHeartbeats 1000000 in
set_option maxRecDepth 100000 in
theorem refMayM_any (m : Me) (w : World) :
    Calls Tryz.prog 65 #[meV m] w fun e w' => e = .returned (.bool (mayM m)) ∧ w' = w.alloc (meObj m) := by
  obtain ⟨i, l, c, lo, hi⟩ := m
  unfold meV
  go_enter Tryz.func65, Tryz.ntmps65
  go_wp2
  all_goals
    go_ret
    refine ⟨?_, by simp_all [meObj]⟩
    simp_all [mayM, keyM, leM]
    try first | omega | (intros; omega)
end Go.Proofs.YtnchjlimkgbfpaaGreatDoor

namespace Go.Proofs.YtnchjlimkgbfpaaGreatDoor
open Go.RowKit
set_option linter.unusedVariables false
set_option maxRecDepth 20000
set_option linter.unusedSimpArgs false
def MetsR (w : World) (v : Value) (l : List Me) : Prop := Rws 5 w v (l.map meRow)
theorem MetsR.up {w w' : World} {v : Value} {l : List Me} (h : MetsR w v l) (hb : Below w.heap.size w w') : MetsR w' v l := Rws.up h hb
theorem MetsR.len {w : World} {v : Value} {l : List Me} (h : MetsR w v l) : ∃ a cap, v = .slice a l.length cap ∧ l.length ≤ cap ∧ cap ≤ maxLen := by
  obtain ⟨a, c, e, h1, h2⟩ := Rws.len h
  simp only [List.length_map] at e h1
  exact ⟨a, c, e, h1, h2⟩
theorem MetsR.at {w : World} {v : Value} {l : List Me} (h : MetsR w v l) (k : Nat) (hk : k < l.length) :
    ∃ b off cap n, v = .slice (some ⟨b, off, none⟩) l.length cap ∧ l[k]? = some n ∧ w.cell? ⟨b, off + k * 5, none⟩ = some (.int .i64 n.id) ∧ w.cell? ⟨b, off + k * 5 + 1, none⟩ = some (.int .i64 n.lvl) ∧ w.cell? ⟨b, off + k * 5 + 2, none⟩ = some (.int .i64 n.cnt) ∧ w.cell? ⟨b, off + k * 5 + 3, none⟩ = some (.string n.low) ∧ w.cell? ⟨b, off + k * 5 + 4, none⟩ = some (.string n.high) := by
  obtain ⟨b, off, cap, e, _, _, hc⟩ := Rws.at h k (by simpa using hk)
  simp only [List.length_map] at e
  have hg : (l.map meRow).getD k [] = meRow l[k] := by simp [List.getD, hk]
  rw [hg] at hc
  refine ⟨b, off, cap, l[k], e, by simp [hk], ?_, ?_, ?_, ?_, ?_⟩
  · simpa using hc 0 _ rfl
  · simpa using hc 1 _ rfl
  · simpa using hc 2 _ rfl
  · simpa using hc 3 _ rfl
  · simpa using hc 4 _ rfl
theorem refMayP (m : Me) (x : Bool) (h : mayM m = x) (w : World) : Calls Tryz.prog 65 #[meV m] w fun e w' => e = .returned (.bool x) ∧ Below w.heap.size w w' := by
  refine (refMayM_any m w).mono ?_
  rintro e w' ⟨rfl, rfl⟩
  exact ⟨by rw [h], up_alloc _ _⟩
theorem refBefP (a b : Me) (x : Bool) (h : befM a b = x) (w : World) : Calls Tryz.prog 66 #[meV a, meV b] w fun e w' => e = .returned (.bool x) ∧ Below w.heap.size w w' := by
  refine (refBefM_any a b w).mono ?_
  rintro e w' ⟨rfl, rfl⟩
  exact ⟨by rw [h], up_al (up_alloc _ _) _⟩
def headM (next : Int) (p : Option Me) (m : Me) : Bool :=
  mayM m && (decide (m.id < next) && (match p with | none => true | some p => befM p m && !(decide (0 < m.lvl) && (decide (p.lvl = m.lvl) && leM m.low p.high))))
def lastM (l : List Me) (k : Nat) : Option Me := if k = 0 then none else l[k - 1]?
theorem lastM_take (l : List Me) (k : Nat) (hk : k ≤ l.length) : (l.take k).getLast? = lastM l k := by
  unfold lastM
  by_cases h : k = 0
  · subst h; simp
  · rw [if_neg h, List.getLast?_eq_getElem?, List.length_take, Nat.min_eq_left hk, List.getElem?_take_of_lt (by omega)]
theorem okM_eq (next : Int) (l : List Me) (k : Nat) (hk : k ≤ l.length) (m : Me) : okM next (l.take k) m = (headM next (lastM l k) m && (l.take k).all (fun p => decide (p.id ≠ m.id))) := by
  unfold okM headM
  rw [lastM_take l k hk]
  cases lastM l k <;> simp only [Bool.and_assoc]
theorem allM_step (next : Int) (l : List Me) (k : Nat) (m : Me) (h : l[k]? = some m) : allM next (l.take k) (l.drop k) = (okM next (l.take k) m && allM next (l.take (k + 1)) (l.drop (k + 1))) := by
  have hk := (List.getElem?_eq_some_iff.1 h).1
  rw [List.drop_eq_getElem_cons hk, (List.getElem?_eq_some_iff.1 h).2, allM, List.take_add_one, h]
  rfl
theorem errV_goes {ts : List Me} {seq next : Int} {k : Nat} {m : Me} (h : errV ts seq next = if allM next (ts.take k) (ts.drop k) = true then 0 else 9) (hm : ts[k]? = some m) (hh : headM next (lastM ts k) m = true) (hi : (ts.take k).all (fun p => decide (p.id ≠ m.id)) = true) : errV ts seq next = if allM next (ts.take (k + 1)) (ts.drop (k + 1)) = true then 0 else 9 := by
  rw [h, allM_step next ts k m hm, okM_eq next ts k (Nat.le_of_lt (List.getElem?_eq_some_iff.1 hm).1) m, hh, hi]
  rfl
theorem errV_ends {ts : List Me} {seq next : Int} {k : Nat} {m : Me} (h : errV ts seq next = if allM next (ts.take k) (ts.drop k) = true then 0 else 9) (hm : ts[k]? = some m) (hh : headM next (lastM ts k) m = false ∨ (ts.take k).all (fun p => decide (p.id ≠ m.id)) = false) : errV ts seq next = 9 := by
  rw [h, allM_step next ts k m hm, okM_eq next ts k (Nat.le_of_lt (List.getElem?_eq_some_iff.1 hm).1) m]
  rcases hh with hh | hh <;> rw [hh] <;> simp
theorem errV_done {ts : List Me} {seq next : Int} {k : Nat} (h : errV ts seq next = if allM next (ts.take k) (ts.drop k) = true then 0 else 9) (hk : ts.length ≤ k) : errV ts seq next = 0 := by
  rw [h, List.drop_eq_nil_of_le hk]; rfl
theorem errV_bad {ts : List Me} {seq next : Int} (h : ¬ (ts.length ≤ 256 ∧ 1 ≤ next ∧ next ≤ 2147483647 ∧ 0 ≤ seq ∧ seq ≤ 1099511627776)) : errV ts seq next = 9 := by
  unfold errV chkV
  rw [decide_eq_false h]
  simp
theorem errV_start {ts : List Me} {seq next : Int} (h : ts.length ≤ 256 ∧ 1 ≤ next ∧ next ≤ 2147483647 ∧ 0 ≤ seq ∧ seq ≤ 1099511627776) : errV ts seq next = if allM next (ts.take 0) (ts.drop 0) = true then 0 else 9 := by
  unfold errV chkV
  rw [decide_eq_true h]
  simp
end Go.Proofs.YtnchjlimkgbfpaaGreatDoor
