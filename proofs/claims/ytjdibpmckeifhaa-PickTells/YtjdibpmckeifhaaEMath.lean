/- Layer 11 as plain lists: metas, versions, edits; which may be; their order. -/
import Derived.Test.YtjdibpmckeifhaaLBase
namespace Go.Proofs.Ytjdibpmckeifhaa
open Go.RowKit
set_option linter.unusedVariables false
set_option linter.unusedSimpArgs false

theorem bl_selfM : ∀ l : List UInt8, Op.bytesLess l l = false
  | [] => rfl
  | x :: l => by simp [Op.bytesLess, bl_selfM l]
theorem bl_transM : ∀ a b c : List UInt8, Op.bytesLess a b = true → Op.bytesLess b c = true → Op.bytesLess a c = true
  | _, [], _, h, _ => by simp [Op.bytesLess] at h
  | _, _ :: _, [], _, h => by simp [Op.bytesLess] at h
  | [], _ :: _, _ :: _, _, _ => by simp [Op.bytesLess]
  | x :: a, y :: b, z :: c, h, k => by
    simp only [Op.bytesLess, Bool.or_eq_true, decide_eq_true_eq, Bool.and_eq_true, beq_iff_eq] at h k ⊢
    rcases h with h | ⟨rfl, h⟩
    · rcases k with k | ⟨rfl, k⟩
      · exact .inl (UInt8.lt_trans h k)
      · exact .inl h
    · rcases k with k | ⟨rfl, k⟩
      · exact .inl k
      · exact .inr ⟨rfl, bl_transM a b c h k⟩
theorem bl_totalM : ∀ a b : List UInt8, Op.bytesLess a b = false → Op.bytesLess b a = false → a = b
  | [], [], _, _ => rfl
  | [], _ :: _, h, _ => by simp [Op.bytesLess] at h
  | _ :: _, [], _, h => by simp [Op.bytesLess] at h
  | x :: a, y :: b, h, k => by
    simp only [Op.bytesLess, Bool.or_eq_false_iff, decide_eq_false_iff_not, Bool.and_eq_false_iff, beq_eq_false_iff_ne] at h k
    have e : x = y := UInt8.le_antisymm (UInt8.not_lt.1 k.1) (UInt8.not_lt.1 h.1)
    subst e
    have h2 : Op.bytesLess a b = false := by rcases h.2 with q | q; exact absurd rfl q; exact q
    have k2 : Op.bytesLess b a = false := by rcases k.2 with q | q; exact absurd rfl q; exact q
    rw [bl_totalM a b h2 k2]

/-- A table's meta. -/
structure Me where
  id : Int
  lvl : Int
  cnt : Int
  low : ByteArray
  high : ByteArray
instance : Inhabited Me := ⟨⟨0, 0, 0, ⟨#[]⟩, ⟨#[]⟩⟩⟩
def meV (m : Me) : Value := .agg #[.int .i64 m.id, .int .i64 m.lvl, .int .i64 m.cnt, .string m.low, .string m.high]
def meRow (m : Me) : List Value := [.int .i64 m.id, .int .i64 m.lvl, .int .i64 m.cnt, .string m.low, .string m.high]
/-- May a meta be? -/
def keyM (s : ByteArray) : Bool := decide (1 ≤ (s.size : Int) ∧ (s.size : Int) ≤ 96)
def leM (s t : ByteArray) : Bool := Op.bytesLess s.toList t.toList || (s.toList == t.toList)
def mayM (m : Me) : Bool := decide (1 ≤ m.id ∧ m.id ≤ 2147483647 ∧ 0 ≤ m.lvl ∧ m.lvl ≤ 3 ∧ 1 ≤ m.cnt ∧ m.cnt ≤ 4096) && (keyM m.low && (keyM m.high && leM m.low m.high))
/-- The order of tables. -/
def befM (a b : Me) : Bool := if a.lvl = b.lvl then (if a.lvl = 0 then decide (b.id < a.id) else Op.bytesLess a.low.toList b.low.toList) else decide (a.lvl < b.lvl)
/-- What a version that may be keeps at a place, with the one ahead and those ahead. -/
def okM (next : Int) (ahead : List Me) (m : Me) : Bool :=
  mayM m && (decide (m.id < next) && ((match ahead.getLast? with | none => true | some p => befM p m && !(decide (0 < m.lvl) && (decide (p.lvl = m.lvl) && leM m.low p.high))) && ahead.all (fun p => decide (p.id ≠ m.id))))
/-- Do the metas behind the first stand? -/
def allM (next : Int) : List Me → List Me → Bool
  | _, [] => true
  | ahead, m :: r => okM next ahead m && allM next (ahead ++ [m]) r
/-- A version that may be. -/
def chkV (ts : List Me) (seq next : Int) : Bool := decide (ts.length ≤ 256 ∧ 1 ≤ next ∧ next ≤ 2147483647 ∧ 0 ≤ seq ∧ seq ≤ 1099511627776) && allM next [] ts
def errV (ts : List Me) (seq next : Int) : Int := if chkV ts seq next = true then 0 else 9
/-- The tables without one ID. -/
def dropM (id : Int) (ts : List Me) : List Me := ts.filter (fun m => decide (m.id ≠ id))
/-- The tables without several, one after another; none where one is not there. -/
def dropsM : List Int → List Me → Option (List Me)
  | [], ts => some ts
  | i :: r, ts => if (dropM i ts).length = ts.length then none else dropsM r (dropM i ts)
/-- A meta put where it belongs. -/
def putM (m : Me) : List Me → List Me
  | [] => [m]
  | x :: r => if befM x m = true then x :: putM m r else m :: x :: r
def putsM : List Me → List Me → List Me
  | [], ts => ts
  | m :: r, ts => putsM r (putM m ts)
/-- What Apply answers: the tables, the error (Seq and Next are the edit's). -/
def appM (ts : List Me) (seq next : Int) (drop : List Int) (add : List Me) (seq' next' : Int) : List Me × Int :=
  if chkV ts seq next = true then
    (match dropsM drop ts with
     | none => ([], 71)
     | some l => if seq' < seq ∨ next' < next then ([], 4) else if 256 < add.length then ([], 9) else if chkV (putsM add l) seq' next' = true then (putsM add l, 0) else ([], 9))
  else ([], 9)

theorem allM_at (next : Int) : ∀ (r ahead : List Me), allM next ahead r = true → ∀ k m, r[k]? = some m → okM next (ahead ++ r.take k) m = true
  | [], ahead, h, k, m, hk => by simp at hk
  | x :: r, ahead, h, 0, m, hk => by
    simp at hk
    subst hk
    simp only [allM, Bool.and_eq_true] at h
    simpa using h.1
  | x :: r, ahead, h, k + 1, m, hk => by
    simp only [allM, Bool.and_eq_true] at h
    have := allM_at next r (ahead ++ [x]) h.2 k m (by simpa using hk)
    simpa using this
theorem allM_of (next : Int) : ∀ (r ahead : List Me), (∀ k m, r[k]? = some m → okM next (ahead ++ r.take k) m = true) → allM next ahead r = true
  | [], ahead, h => rfl
  | x :: r, ahead, h => by
    simp only [allM, Bool.and_eq_true]
    refine ⟨by simpa using h 0 x rfl, allM_of next r _ (fun k m hk => ?_)⟩
    have := h (k + 1) m (by simpa using hk)
    simpa using this
theorem putM_len (m : Me) : ∀ ts, (putM m ts).length = ts.length + 1
  | [] => rfl
  | x :: r => by
    rw [putM]
    by_cases h : befM x m = true
    · rw [if_pos h, List.length_cons, putM_len m r]; rfl
    · rw [if_neg h]; rfl
theorem putsM_len : ∀ (add ts : List Me), (putsM add ts).length = ts.length + add.length
  | [], ts => rfl
  | m :: r, ts => by rw [putsM, putsM_len r, putM_len]; simp; omega
/-- A meta that comes behind all stands last. -/
theorem putM_last (m : Me) : ∀ ts, (∀ x ∈ ts, befM x m = true) → putM m ts = ts ++ [m]
  | [], _ => rfl
  | x :: r, h => by
    rw [putM, if_pos (h x (by simp)), putM_last m r (fun y hy => h y (by simp [hy]))]
    rfl
theorem befM_trans {a b c : Me} (h1 : befM a b = true) (h2 : befM b c = true) : befM a c = true := by
  unfold befM at *
  by_cases e1 : a.lvl = b.lvl
  · rw [if_pos e1] at h1
    by_cases e2 : b.lvl = c.lvl
    · rw [if_pos e2] at h2
      rw [if_pos (e1.trans e2)]
      by_cases z : a.lvl = 0
      · rw [if_pos z] at h1 ⊢
        rw [if_pos (e1 ▸ z)] at h2
        simp only [decide_eq_true_eq] at *
        omega
      · rw [if_neg z] at h1 ⊢
        rw [if_neg (e1 ▸ z)] at h2
        exact bl_transM _ _ _ h1 h2
    · rw [if_neg e2] at h2
      rw [if_neg (by rw [e1]; exact e2)]
      rw [e1]; exact h2
  · rw [if_neg e1] at h1
    simp only [decide_eq_true_eq] at h1
    by_cases e2 : b.lvl = c.lvl
    · rw [if_neg (by omega)]
      simp only [decide_eq_true_eq]
      omega
    · rw [if_neg e2] at h2
      simp only [decide_eq_true_eq] at h2
      rw [if_neg (by omega)]
      simp only [decide_eq_true_eq]
      omega
/-- In a version that may be each table comes behind all ahead. -/
theorem chk_asc {next : Int} {ts : List Me} (h : allM next [] ts = true) : ∀ (k : Nat) (m : Me), ts[k]? = some m → ∀ x ∈ ts.take k, befM x m = true := by
  intro k
  induction k with
  | zero => intro m _ x hx; simp at hx
  | succ k ih =>
    intro m hm x hx
    have hk : k < ts.length := by have := (List.getElem?_eq_some_iff.1 hm).1; omega
    have hy : ts[k]? = some ts[k] := List.getElem?_eq_getElem hk
    generalize ts[k] = y at hy
    have hok := allM_at next ts [] h (k + 1) m hm
    rw [List.nil_append, List.take_add_one, hy] at hok
    unfold okM at hok
    simp only [Option.toList_some, List.getLast?_append, List.getLast?_singleton, Option.some_or, Bool.and_eq_true] at hok
    have hb : befM y m = true := hok.2.2.1.1
    rw [List.take_add_one, hy] at hx
    rcases List.mem_append.1 hx with q | q
    · exact befM_trans (ih y hy x q) hb
    · simp at q; rw [q]; exact hb
/-- What is put in its order stands as it was. -/
theorem putsM_self {next : Int} : ∀ (r ahead : List Me), allM next [] (ahead ++ r) = true → putsM r ahead = ahead ++ r
  | [], ahead, h => by simp [putsM]
  | m :: r, ahead, h => by
    have hm : (ahead ++ m :: r)[ahead.length]? = some m := by simp
    have ha := chk_asc h ahead.length m hm
    rw [List.take_left] at ha
    rw [putsM, putM_last m ahead ha]
    have := putsM_self r (ahead ++ [m]) (by simpa using h)
    simpa using this
/-- The edit that makes a version makes it of none. -/
theorem app_whole {ts : List Me} {seq next : Int} (h : chkV ts seq next = true) : appM [] 0 1 [] ts seq next = (ts, 0) := by
  have h0 : chkV [] 0 1 = true := rfl
  have hb := h
  unfold chkV at hb
  simp only [Bool.and_eq_true, decide_eq_true_eq] at hb
  have hp := putsM_self ts [] (by simpa using hb.2)
  unfold appM
  rw [if_pos h0]
  simp only [dropsM]
  rw [if_neg (by omega), if_neg (by omega)]
  simp only [List.nil_append] at hp
  rw [hp, if_pos h]
theorem leM_not {s t : ByteArray} : leM s t = false ↔ Op.bytesLess t.toList s.toList = true := by
  unfold leM
  constructor
  · intro h
    simp only [Bool.or_eq_false_iff, beq_eq_false_iff_ne] at h
    cases q : Op.bytesLess t.toList s.toList
    · exact absurd (bl_totalM _ _ h.1 q) h.2
    · rfl
  · intro h
    simp only [Bool.or_eq_false_iff, beq_eq_false_iff_ne]
    refine ⟨?_, fun e => ?_⟩
    · cases q : Op.bytesLess s.toList t.toList
      · rfl
      · have := bl_transM _ _ _ q h
        rw [bl_selfM] at this
        cases this
    · rw [e, bl_selfM] at h
      cases h
theorem leM_lt {a b c : ByteArray} (h1 : leM a b = true) (h2 : Op.bytesLess b.toList c.toList = true) : Op.bytesLess a.toList c.toList = true := by
  unfold leM at h1
  simp only [Bool.or_eq_true, beq_iff_eq] at h1
  rcases h1 with h1 | h1
  · exact bl_transM _ _ _ h1 h2
  · rw [h1]; exact h2
theorem befM_lvl {a b : Me} (h : befM a b = true) : a.lvl ≤ b.lvl := by
  unfold befM at h
  by_cases e : a.lvl = b.lvl
  · omega
  · rw [if_neg e] at h
    simp only [decide_eq_true_eq] at h
    omega
/-- In a version that may be no two tables have one ID, nor, on a level but the first, a key in common. -/
theorem chk_apart {next : Int} {ts : List Me} (h : allM next [] ts = true) : ∀ (i k : Nat) (a b : Me), ts[k]? = some a → ts[i]? = some b → k < i → a.id ≠ b.id ∧ (a.lvl = b.lvl → 0 < a.lvl → leM b.low a.high = false) := by
  intro i
  induction i with
  | zero => intro k a b _ _ hk; omega
  | succ i ih =>
    intro k a b ha hb hk
    have hi : i < ts.length := by have := (List.getElem?_eq_some_iff.1 hb).1; omega
    have hy : ts[i]? = some ts[i] := List.getElem?_eq_getElem hi
    generalize ts[i] = y at hy
    have hok := allM_at next ts [] h (i + 1) b hb
    rw [List.nil_append] at hok
    have hma : a ∈ ts.take (i + 1) := by
      rw [List.mem_take_iff_getElem]
      have := (List.getElem?_eq_some_iff.1 ha)
      exact ⟨k, by have := this.1; omega, this.2⟩
    have hall : (ts.take (i + 1)).all (fun p => decide (p.id ≠ b.id)) = true := by
      unfold okM at hok
      simp only [Bool.and_eq_true] at hok
      exact hok.2.2.2
    have hid : a.id ≠ b.id := by simpa using List.all_eq_true.1 hall a hma
    refine ⟨hid, fun hl h0 => ?_⟩
    rw [List.take_add_one, hy] at hok
    unfold okM at hok
    simp only [Option.toList_some, List.getLast?_append, List.getLast?_singleton, Option.some_or, Bool.and_eq_true] at hok
    have hb1 : befM y b = true := hok.2.2.1.1
    have hb2 := hok.2.2.1.2
    by_cases hki : k = i
    · subst hki
      rw [ha] at hy
      injection hy with hy
      subst hy
      have hb0 : (0 : Int) < b.lvl := by omega
      cases q : leM b.low a.high
      · rfl
      · rw [q] at hb2
        simp [hb0, hl] at hb2
    · have hay := chk_asc h i y hy a (by
        rw [List.mem_take_iff_getElem]
        have := (List.getElem?_eq_some_iff.1 ha)
        exact ⟨k, by have := this.1; omega, this.2⟩)
      have l1 := befM_lvl hay
      have l2 := befM_lvl hb1
      have hyl : a.lvl = y.lvl := by omega
      have h3 := (ih k a y ha hy (by omega)).2 hyl h0
      have hmy : mayM y = true := by
        have := allM_at next ts [] h i y hy
        unfold okM at this
        simp only [Bool.and_eq_true] at this
        exact this.1
      have h4 : leM y.low y.high = true := by
        unfold mayM at hmy
        simp only [Bool.and_eq_true] at hmy
        exact hmy.2.2.2
      have h5 : leM b.low y.high = false := by
        have hb0 : (0 : Int) < b.lvl := by omega
        have hyb : y.lvl = b.lvl := by omega
        cases q : leM b.low y.high
        · rfl
        · rw [q] at hb2
          simp [hb0, hyb] at hb2
      rw [leM_not] at h3 h5 ⊢
      exact bl_transM _ _ _ h3 (leM_lt h4 h5)
end Go.Proofs.Ytjdibpmckeifhaa
