/- The texts EMath, EChk, HNed, FBase, FLeaf, FList, in this order. -/
import Derived.Test.YtnchjlimkgbfpaaDoorG03
import Derived.Test.YtnchjlimkgbfpaaDoorG02
import Derived.Deep.Cut

/- Layer 11 as plain lists: metas, versions, edits; which may be; their order. -/
namespace Go.Proofs.YtnchjlimkgbfpaaDoor
open Go.RowKit
set_option linter.unusedVariables false
set_option linter.unusedSimpArgs false

theorem bl_selfM : ∀ l : List UInt8, Op.bytesLess l l = false
  | [] => rfl
  | x :: l => by simp [Op.bytesLess, bl_selfM l]
theorem bl_transM : ∀ a b c : List UInt8, Op.bytesLess a b = true → Op.bytesLess b c = true → Op.bytesLess a c = true
  | _, [], _, h, _ => by simp [Op.bytesLess] at h
  | _, _ :: _, [], _, h => by simp [Op.bytesLess] at h
  | [], _ :: _, _ :: _, _, _ => by simp [Op.bytesLess]
  | x :: a, y :: b, z :: c, h, k => by
    simp only [Op.bytesLess, Bool.or_eq_true, decide_eq_true_eq, Bool.and_eq_true, beq_iff_eq] at h k ⊢
    rcases h with h | ⟨rfl, h⟩
    · rcases k with k | ⟨rfl, k⟩
      · exact .inl (UInt8.lt_trans h k)
      · exact .inl h
    · rcases k with k | ⟨rfl, k⟩
      · exact .inl k
      · exact .inr ⟨rfl, bl_transM a b c h k⟩
theorem bl_totalM : ∀ a b : List UInt8, Op.bytesLess a b = false → Op.bytesLess b a = false → a = b
  | [], [], _, _ => rfl
  | [], _ :: _, h, _ => by simp [Op.bytesLess] at h
  | _ :: _, [], _, h => by simp [Op.bytesLess] at h
  | x :: a, y :: b, h, k => by
    simp only [Op.bytesLess, Bool.or_eq_false_iff, decide_eq_false_iff_not, Bool.and_eq_false_iff, beq_eq_false_iff_ne] at h k
    have e : x = y := UInt8.le_antisymm (UInt8.not_lt.1 k.1) (UInt8.not_lt.1 h.1)
    subst e
    have h2 : Op.bytesLess a b = false := by rcases h.2 with q | q; exact absurd rfl q; exact q
    have k2 : Op.bytesLess b a = false := by rcases k.2 with q | q; exact absurd rfl q; exact q
    rw [bl_totalM a b h2 k2]

/-- A table's meta. -/
structure Me where
  id : Int
  lvl : Int
  cnt : Int
  low : ByteArray
  high : ByteArray
instance : Inhabited Me := ⟨⟨0, 0, 0, ⟨#[]⟩, ⟨#[]⟩⟩⟩
def meV (m : Me) : Value := .agg #[.int .i64 m.id, .int .i64 m.lvl, .int .i64 m.cnt, .string m.low, .string m.high]
def meRow (m : Me) : List Value := [.int .i64 m.id, .int .i64 m.lvl, .int .i64 m.cnt, .string m.low, .string m.high]
/-- May a meta be? -/
def keyM (s : ByteArray) : Bool := decide (1 ≤ (s.size : Int) ∧ (s.size : Int) ≤ 96)
def leM (s t : ByteArray) : Bool := Op.bytesLess s.toList t.toList || (s.toList == t.toList)
def mayM (m : Me) : Bool := decide (1 ≤ m.id ∧ m.id ≤ 2147483647 ∧ 0 ≤ m.lvl ∧ m.lvl ≤ 3 ∧ 1 ≤ m.cnt ∧ m.cnt ≤ 4096) && (keyM m.low && (keyM m.high && leM m.low m.high))
/-- The order of tables. -/
def befM (a b : Me) : Bool := if a.lvl = b.lvl then (if a.lvl = 0 then decide (b.id < a.id) else Op.bytesLess a.low.toList b.low.toList) else decide (a.lvl < b.lvl)
/-- What a version that may be keeps at a place, with the one ahead and those ahead. -/
def okM (next : Int) (ahead : List Me) (m : Me) : Bool :=
  mayM m && (decide (m.id < next) && ((match ahead.getLast? with | none => true | some p => befM p m && !(decide (0 < m.lvl) && (decide (p.lvl = m.lvl) && leM m.low p.high))) && ahead.all (fun p => decide (p.id ≠ m.id))))
/-- Do the metas behind the first stand? -/
def allM (next : Int) : List Me → List Me → Bool
  | _, [] => true
  | ahead, m :: r => okM next ahead m && allM next (ahead ++ [m]) r
/-- A version that may be. -/
def chkV (ts : List Me) (seq next : Int) : Bool := decide (ts.length ≤ 256 ∧ 1 ≤ next ∧ next ≤ 2147483647 ∧ 0 ≤ seq ∧ seq ≤ 1099511627776) && allM next [] ts
def errV (ts : List Me) (seq next : Int) : Int := if chkV ts seq next = true then 0 else 9
/-- The tables without one ID. -/
def dropM (id : Int) (ts : List Me) : List Me := ts.filter (fun m => decide (m.id ≠ id))
/-- The tables without several, one after another; none where one is not there. -/
def dropsM : List Int → List Me → Option (List Me)
  | [], ts => some ts
  | i :: r, ts => if (dropM i ts).length = ts.length then none else dropsM r (dropM i ts)
/-- A meta put where it belongs. -/
def putM (m : Me) : List Me → List Me
  | [] => [m]
  | x :: r => if befM x m = true then x :: putM m r else m :: x :: r
def putsM : List Me → List Me → List Me
  | [], ts => ts
  | m :: r, ts => putsM r (putM m ts)
/-- What Apply answers: the tables, the error (Seq and Next are the edit's). -/
def appM (ts : List Me) (seq next : Int) (drop : List Int) (add : List Me) (seq' next' : Int) : List Me × Int :=
  if chkV ts seq next = true then
    (match dropsM drop ts with
     | none => ([], 71)
     | some l => if seq' < seq ∨ next' < next then ([], 4) else if 256 < add.length then ([], 9) else if chkV (putsM add l) seq' next' = true then (putsM add l, 0) else ([], 9))
  else ([], 9)

theorem allM_at (next : Int) : ∀ (r ahead : List Me), allM next ahead r = true → ∀ k m, r[k]? = some m → okM next (ahead ++ r.take k) m = true
  | [], ahead, h, k, m, hk => by simp at hk
  | x :: r, ahead, h, 0, m, hk => by
    simp at hk
    subst hk
    simp only [allM, Bool.and_eq_true] at h
    simpa using h.1
  | x :: r, ahead, h, k + 1, m, hk => by
    simp only [allM, Bool.and_eq_true] at h
    have := allM_at next r (ahead ++ [x]) h.2 k m (by simpa using hk)
    simpa using this
theorem allM_of (next : Int) : ∀ (r ahead : List Me), (∀ k m, r[k]? = some m → okM next (ahead ++ r.take k) m = true) → allM next ahead r = true
  | [], ahead, h => rfl
  | x :: r, ahead, h => by
    simp only [allM, Bool.and_eq_true]
    refine ⟨by simpa using h 0 x rfl, allM_of next r _ (fun k m hk => ?_)⟩
    have := h (k + 1) m (by simpa using hk)
    simpa using this
theorem putM_len (m : Me) : ∀ ts, (putM m ts).length = ts.length + 1
  | [] => rfl
  | x :: r => by
    rw [putM]
    by_cases h : befM x m = true
    · rw [if_pos h, List.length_cons, putM_len m r]; rfl
    · rw [if_neg h]; rfl
theorem putsM_len : ∀ (add ts : List Me), (putsM add ts).length = ts.length + add.length
  | [], ts => rfl
  | m :: r, ts => by rw [putsM, putsM_len r, putM_len]; simp; omega
/-- A meta that comes behind all stands last. -/
theorem putM_last (m : Me) : ∀ ts, (∀ x ∈ ts, befM x m = true) → putM m ts = ts ++ [m]
  | [], _ => rfl
  | x :: r, h => by
    rw [putM, if_pos (h x (by simp)), putM_last m r (fun y hy => h y (by simp [hy]))]
    rfl
theorem befM_trans {a b c : Me} (h1 : befM a b = true) (h2 : befM b c = true) : befM a c = true := by
  unfold befM at *
  by_cases e1 : a.lvl = b.lvl
  · rw [if_pos e1] at h1
    by_cases e2 : b.lvl = c.lvl
    · rw [if_pos e2] at h2
      rw [if_pos (e1.trans e2)]
      by_cases z : a.lvl = 0
      · rw [if_pos z] at h1 ⊢
        rw [if_pos (e1 ▸ z)] at h2
        simp only [decide_eq_true_eq] at *
        omega
      · rw [if_neg z] at h1 ⊢
        rw [if_neg (e1 ▸ z)] at h2
        exact bl_transM _ _ _ h1 h2
    · rw [if_neg e2] at h2
      rw [if_neg (by rw [e1]; exact e2)]
      rw [e1]; exact h2
  · rw [if_neg e1] at h1
    simp only [decide_eq_true_eq] at h1
    by_cases e2 : b.lvl = c.lvl
    · rw [if_neg (by omega)]
      simp only [decide_eq_true_eq]
      omega
    · rw [if_neg e2] at h2
      simp only [decide_eq_true_eq] at h2
      rw [if_neg (by omega)]
      simp only [decide_eq_true_eq]
      omega
/-- In a version that may be each table comes behind all ahead. -/
theorem chk_asc {next : Int} {ts : List Me} (h : allM next [] ts = true) : ∀ (k : Nat) (m : Me), ts[k]? = some m → ∀ x ∈ ts.take k, befM x m = true := by
  intro k
  induction k with
  | zero => intro m _ x hx; simp at hx
  | succ k ih =>
    intro m hm x hx
    have hk : k < ts.length := by have := (List.getElem?_eq_some_iff.1 hm).1; omega
    have hy : ts[k]? = some ts[k] := List.getElem?_eq_getElem hk
    generalize ts[k] = y at hy
    have hok := allM_at next ts [] h (k + 1) m hm
    rw [List.nil_append, List.take_add_one, hy] at hok
    unfold okM at hok
    simp only [Option.toList_some, List.getLast?_append, List.getLast?_singleton, Option.some_or, Bool.and_eq_true] at hok
    have hb : befM y m = true := hok.2.2.1.1
    rw [List.take_add_one, hy] at hx
    rcases List.mem_append.1 hx with q | q
    · exact befM_trans (ih y hy x q) hb
    · simp at q; rw [q]; exact hb
/-- What is put in its order stands as it was. -/
theorem putsM_self {next : Int} : ∀ (r ahead : List Me), allM next [] (ahead ++ r) = true → putsM r ahead = ahead ++ r
  | [], ahead, h => by simp [putsM]
  | m :: r, ahead, h => by
    have hm : (ahead ++ m :: r)[ahead.length]? = some m := by simp
    have ha := chk_asc h ahead.length m hm
    rw [List.take_left] at ha
    rw [putsM, putM_last m ahead ha]
    have := putsM_self r (ahead ++ [m]) (by simpa using h)
    simpa using this
/-- The edit that makes a version makes it of none. -/
theorem app_whole {ts : List Me} {seq next : Int} (h : chkV ts seq next = true) : appM [] 0 1 [] ts seq next = (ts, 0) := by
  have h0 : chkV [] 0 1 = true := rfl
  have hb := h
  unfold chkV at hb
  simp only [Bool.and_eq_true, decide_eq_true_eq] at hb
  have hp := putsM_self ts [] (by simpa using hb.2)
  unfold appM
  rw [if_pos h0]
  simp only [dropsM]
  rw [if_neg (by omega), if_neg (by omega)]
  simp only [List.nil_append] at hp
  rw [hp, if_pos h]
theorem leM_not {s t : ByteArray} : leM s t = false ↔ Op.bytesLess t.toList s.toList = true := by
  unfold leM
  constructor
  · intro h
    simp only [Bool.or_eq_false_iff, beq_eq_false_iff_ne] at h
    cases q : Op.bytesLess t.toList s.toList
    · exact absurd (bl_totalM _ _ h.1 q) h.2
    · rfl
  · intro h
    simp only [Bool.or_eq_false_iff, beq_eq_false_iff_ne]
    refine ⟨?_, fun e => ?_⟩
    · cases q : Op.bytesLess s.toList t.toList
      · rfl
      · have := bl_transM _ _ _ q h
        rw [bl_selfM] at this
        cases this
    · rw [e, bl_selfM] at h
      cases h
theorem leM_lt {a b c : ByteArray} (h1 : leM a b = true) (h2 : Op.bytesLess b.toList c.toList = true) : Op.bytesLess a.toList c.toList = true := by
  unfold leM at h1
  simp only [Bool.or_eq_true, beq_iff_eq] at h1
  rcases h1 with h1 | h1
  · exact bl_transM _ _ _ h1 h2
  · rw [h1]; exact h2
theorem befM_lvl {a b : Me} (h : befM a b = true) : a.lvl ≤ b.lvl := by
  unfold befM at h
  by_cases e : a.lvl = b.lvl
  · omega
  · rw [if_neg e] at h
    simp only [decide_eq_true_eq] at h
    omega
/-- In a version that may be no two tables have one ID, nor, on a level but the first, a key in common. -/
theorem chk_apart {next : Int} {ts : List Me} (h : allM next [] ts = true) : ∀ (i k : Nat) (a b : Me), ts[k]? = some a → ts[i]? = some b → k < i → a.id ≠ b.id ∧ (a.lvl = b.lvl → 0 < a.lvl → leM b.low a.high = false) := by
  intro i
  induction i with
  | zero => intro k a b _ _ hk; omega
  | succ i ih =>
    intro k a b ha hb hk
    have hi : i < ts.length := by have := (List.getElem?_eq_some_iff.1 hb).1; omega
    have hy : ts[i]? = some ts[i] := List.getElem?_eq_getElem hi
    generalize ts[i] = y at hy
    have hok := allM_at next ts [] h (i + 1) b hb
    rw [List.nil_append] at hok
    have hma : a ∈ ts.take (i + 1) := by
      rw [List.mem_take_iff_getElem]
      have := (List.getElem?_eq_some_iff.1 ha)
      exact ⟨k, by have := this.1; omega, this.2⟩
    have hall : (ts.take (i + 1)).all (fun p => decide (p.id ≠ b.id)) = true := by
      unfold okM at hok
      simp only [Bool.and_eq_true] at hok
      exact hok.2.2.2
    have hid : a.id ≠ b.id := by simpa using List.all_eq_true.1 hall a hma
    refine ⟨hid, fun hl h0 => ?_⟩
    rw [List.take_add_one, hy] at hok
    unfold okM at hok
    simp only [Option.toList_some, List.getLast?_append, List.getLast?_singleton, Option.some_or, Bool.and_eq_true] at hok
    have hb1 : befM y b = true := hok.2.2.1.1
    have hb2 := hok.2.2.1.2
    by_cases hki : k = i
    · subst hki
      rw [ha] at hy
      injection hy with hy
      subst hy
      have hb0 : (0 : Int) < b.lvl := by omega
      cases q : leM b.low a.high
      · rfl
      · rw [q] at hb2
        simp [hb0, hl] at hb2
    · have hay := chk_asc h i y hy a (by
        rw [List.mem_take_iff_getElem]
        have := (List.getElem?_eq_some_iff.1 ha)
        exact ⟨k, by have := this.1; omega, this.2⟩)
      have l1 := befM_lvl hay
      have l2 := befM_lvl hb1
      have hyl : a.lvl = y.lvl := by omega
      have h3 := (ih k a y ha hy (by omega)).2 hyl h0
      have hmy : mayM y = true := by
        have := allM_at next ts [] h i y hy
        unfold okM at this
        simp only [Bool.and_eq_true] at this
        exact this.1
      have h4 : leM y.low y.high = true := by
        unfold mayM at hmy
        simp only [Bool.and_eq_true] at hmy
        exact hmy.2.2.2
      have h5 : leM b.low y.high = false := by
        have hb0 : (0 : Int) < b.lvl := by omega
        have hyb : y.lvl = b.lvl := by omega
        cases q : leM b.low y.high
        · rfl
        · rw [q] at hb2
          simp [hb0, hyb] at hb2
      rw [leM_not] at h3 h5 ⊢
      exact bl_transM _ _ _ h3 (leM_lt h4 h5)
end Go.Proofs.YtnchjlimkgbfpaaDoor

/- The document's Check of layer 11. -/
namespace Go.Proofs.YtnchjlimkgbfpaaDoor
open Go.RowKit
set_option linter.unusedVariables false
set_option linter.unusedSimpArgs false

/-- The slice v holds in w the metas l. -/
def MetsR (w : World) (v : Value) (l : List Me) : Prop := Rws 5 w v (l.map meRow)
theorem MetsR.up {w w' : World} {v : Value} {l : List Me} (h : MetsR w v l) (hb : Below w.heap.size w w') : MetsR w' v l := Rws.up h hb
theorem MetsR.len {w : World} {v : Value} {l : List Me} (h : MetsR w v l) : ∃ a cap, v = .slice a l.length cap ∧ l.length ≤ cap ∧ cap ≤ maxLen := by
  obtain ⟨a, c, e, h1, h2⟩ := Rws.len h
  simp only [List.length_map] at e h1
  exact ⟨a, c, e, h1, h2⟩
theorem MetsR.at {w : World} {v : Value} {l : List Me} (h : MetsR w v l) (k : Nat) (hk : k < l.length) :
    ∃ b off cap n, v = .slice (some ⟨b, off, none⟩) l.length cap ∧ l[k]? = some n ∧ w.cell? ⟨b, off + k * 5, none⟩ = some (.int .i64 n.id) ∧ w.cell? ⟨b, off + k * 5 + 1, none⟩ = some (.int .i64 n.lvl) ∧ w.cell? ⟨b, off + k * 5 + 2, none⟩ = some (.int .i64 n.cnt) ∧ w.cell? ⟨b, off + k * 5 + 3, none⟩ = some (.string n.low) ∧ w.cell? ⟨b, off + k * 5 + 4, none⟩ = some (.string n.high) := by
  obtain ⟨b, off, cap, e, _, _, hc⟩ := Rws.at h k (by simpa using hk)
  simp only [List.length_map] at e
  have hg : (l.map meRow).getD k [] = meRow l[k] := by simp [List.getD, hk]
  rw [hg] at hc
  refine ⟨b, off, cap, l[k], e, by simp [hk], ?_, ?_, ?_, ?_, ?_⟩
  · simpa using hc 0 _ rfl
  · simpa using hc 1 _ rfl
  · simpa using hc 2 _ rfl
  · simpa using hc 3 _ rfl
  · simpa using hc 4 _ rfl

/-- What the first test of a round asks. -/
def headM (next : Int) (p : Option Me) (m : Me) : Bool :=
  mayM m && (decide (m.id < next) && (match p with | none => true | some p => befM p m && !(decide (0 < m.lvl) && (decide (p.lvl = m.lvl) && leM m.low p.high))))
def lastM (l : List Me) (k : Nat) : Option Me := if k = 0 then none else l[k - 1]?
theorem lastM_take (l : List Me) (k : Nat) (hk : k ≤ l.length) : (l.take k).getLast? = lastM l k := by
  unfold lastM
  by_cases h : k = 0
  · subst h; simp
  · rw [if_neg h, List.getLast?_eq_getElem?, List.length_take, Nat.min_eq_left hk, List.getElem?_take_of_lt (by omega)]
theorem okM_eq (next : Int) (l : List Me) (k : Nat) (hk : k ≤ l.length) (m : Me) : okM next (l.take k) m = (headM next (lastM l k) m && (l.take k).all (fun p => decide (p.id ≠ m.id))) := by
  unfold okM headM
  rw [lastM_take l k hk]
  cases lastM l k <;> simp only [Bool.and_assoc]
theorem allM_step (next : Int) (l : List Me) (k : Nat) (m : Me) (h : l[k]? = some m) : allM next (l.take k) (l.drop k) = (okM next (l.take k) m && allM next (l.take (k + 1)) (l.drop (k + 1))) := by
  have hk := (List.getElem?_eq_some_iff.1 h).1
  rw [List.drop_eq_getElem_cons hk, (List.getElem?_eq_some_iff.1 h).2, allM, List.take_add_one, h]
  rfl
theorem errV_goes {ts : List Me} {seq next : Int} {k : Nat} {m : Me} (h : errV ts seq next = if allM next (ts.take k) (ts.drop k) = true then 0 else 9) (hm : ts[k]? = some m) (hh : headM next (lastM ts k) m = true) (hi : (ts.take k).all (fun p => decide (p.id ≠ m.id)) = true) : errV ts seq next = if allM next (ts.take (k + 1)) (ts.drop (k + 1)) = true then 0 else 9 := by
  rw [h, allM_step next ts k m hm, okM_eq next ts k (Nat.le_of_lt (List.getElem?_eq_some_iff.1 hm).1) m, hh, hi]
  rfl
theorem errV_ends {ts : List Me} {seq next : Int} {k : Nat} {m : Me} (h : errV ts seq next = if allM next (ts.take k) (ts.drop k) = true then 0 else 9) (hm : ts[k]? = some m) (hh : headM next (lastM ts k) m = false ∨ (ts.take k).all (fun p => decide (p.id ≠ m.id)) = false) : errV ts seq next = 9 := by
  rw [h, allM_step next ts k m hm, okM_eq next ts k (Nat.le_of_lt (List.getElem?_eq_some_iff.1 hm).1) m]
  rcases hh with hh | hh <;> rw [hh] <;> simp
theorem errV_done {ts : List Me} {seq next : Int} {k : Nat} (h : errV ts seq next = if allM next (ts.take k) (ts.drop k) = true then 0 else 9) (hk : ts.length ≤ k) : errV ts seq next = 0 := by
  rw [h, List.drop_eq_nil_of_le hk]; rfl
theorem errV_bad {ts : List Me} {seq next : Int} (h : ¬ (ts.length ≤ 256 ∧ 1 ≤ next ∧ next ≤ 2147483647 ∧ 0 ≤ seq ∧ seq ≤ 1099511627776)) : errV ts seq next = 9 := by
  unfold errV chkV
  rw [decide_eq_false h]
  simp
theorem errV_start {ts : List Me} {seq next : Int} (h : ts.length ≤ 256 ∧ 1 ≤ next ∧ next ≤ 2147483647 ∧ 0 ≤ seq ∧ seq ≤ 1099511627776) : errV ts seq next = if allM next (ts.take 0) (ts.drop 0) = true then 0 else 9 := by
  unfold errV chkV
  rw [decide_eq_true h]
  simp
end Go.Proofs.YtnchjlimkgbfpaaDoor

/- The program's neededNames: the set of the names that a version needs. -/
namespace Go.Proofs.YtnchjlimkgbfpaaDoor
open Go.RowKit
set_option linter.unusedVariables false
set_option linter.unusedSimpArgs false

set_option maxHeartbeats 2000000 in
set_option maxRecDepth 20000 in
theorem needed_any (ts : List Me) (seq next id : Int) (va : Option Addr) (vn vc : Nat) (w : World) (hv : MetsR w (.slice va vn vc) ts) (hl : ts.length ≤ 4000000000000) (ht : Tab w) :
    Calls Tryd.prog 21 #[.agg #[.slice va vn vc, .int .i64 seq, .int .i64 next], .int .i64 id] w fun e w' => ∃ b, e = .returned (.map (some b)) ∧ Hid (SetN w' b (needL (ts.map (·.id)) id)) ∧ Hid (Below w.heap.size w w') := by
  have HV : Hid (MetsR w (.slice va vn vc) ts) := hv
  have HT : Hid (Tab w) := ht
  obtain ⟨a0, cap, ev, hcap, hmax⟩ := hv.len
  injection ev with e1 e2 e3
  subst e2
  unfold maxLen at hmax
  clear hv ht e1 e3
  have hmm := @run_makeMap Tryd.prog
  have hcur : ({ data := #[67, 85, 82, 82, 69, 78, 84] } : ByteArray) = strOfNums curN := rfl
  have HCO : Hid ((∀ y ∈ curN, 0 ≤ y ∧ y ≤ 255) ∧ curN.length ≤ maxLen) := by
    refine ⟨?_, by unfold maxLen; decide⟩
    intro y hy
    unfold curN at hy
    simp at hy
    omega
  go_enter Tryd.func21, Tryd.ntmps21
  rw [hcur]
  clear hcur
  have HC0 : Hid (addN [] curN = [curN]) := rfl
  have HP0 : Hid (needL ((ts.map (·.id)).take 0) id = putN [curN] 109 id) := rfl
  generalize curN = cu at *
  obtain ⟨wb, hwb⟩ : ∃ wb, wb = w.alloc (.cells #[.slice va ts.length vc, .int .i64 seq, .int .i64 next] 49) := ⟨_, rfl⟩
  have UB : Hid (Below w.heap.size w wb) := by rw [hwb]; exact up_al (Below.refl _ _) _
  have BX : Hid (wb.heap[w.heap.size]? = some (.cells #[.slice va ts.length vc, .int .i64 seq, .int .i64 next] 49)) := by rw [hwb]; exact blk_new _ _
  have HW : Hid (w.alloc (.cells #[.slice va ts.length vc, .int .i64 seq, .int .i64 next] 49) = wb) := hwb.symm
  clear hwb
  go_upto_region 1 with fail
  rw [HW.out]
  have HM0 : Hid (SetN (wb.alloc (.map #[] 0)) wb.heap.size []) := ⟨(by intro x hx; cases hx), SetS.made _ _ _⟩
  have HCO1 := HCO.out.1
  go_wp2_with (first | (refine wpList_setN_ins _ rfl _ _ _ rfl wb.heap.size [] rfl HM0.out (by unfold maxLen; decide) cu HCO.out.1 HCO.out.2 rfl rfl ?_; intro w2 hset2 hgrow2) | fail)
  have HC1 : Hid (addN [] cu = [cu]) := HC0.out
  obtain ⟨w3, hw3⟩ : ∃ w3, w3 = w2.alloc (.cells #[.map (some wb.heap.size)] 65) := ⟨_, rfl⟩
  have HW3 : Hid (w2.alloc (.cells #[.map (some wb.heap.size)] 65) = w3) := hw3.symm
  have U2 : Hid (Below w.heap.size w w2) := (up_al UB.out _).grown hgrow2 (up_al UB.out _).size (fun k hk => by injection hk with hk; have := UB.out.size; omega)
  have U3 : Hid (Below w.heap.size w w3) := by rw [hw3]; exact up_al U2.out _
  have S3 : Hid (SetN w3 wb.heap.size [cu]) := by rw [hw3, ← HC1.out]; exact hset2.up (up_al (Below.refl _ _) _)
  have C3 : Hid (w3.cell? ⟨w2.heap.size, 0, none⟩ = some (.map (some wb.heap.size))) := by rw [hw3]; exact blk_cell (blk_new _ _) 0 _ rfl
  have N1 := hid (need1_any 109 id (by omega) w2.heap.size wb.heap.size [cu] w3 C3.out S3.out (by simp) (HT.out.up U3.out))
  rw [HW3.out]
  have G2 : Hid (Below wb.heap.size wb w2) := (up_al (Below.refl _ _) _).grown hgrow2 (up_al (Below.refl _ _) _).size (fun k hk => by injection hk with hk; omega)
  have G3 : Hid (Below wb.heap.size wb w3) := by rw [hw3]; exact up_al G2.out _
  have HCne : Hid (w2.heap.size ≠ wb.heap.size) := S3.out.cell_ne C3.out
  clear hw3 hset2 hgrow2 HM0 HCO1 HC1 HC0 HCO hmm
  refine N1.out.mono ?_
  rintro e w4 ⟨rfl, HS4, HG4⟩
  clear N1
  have HL0 : Hid (needL (((ts.map (·.id)).take 0)) id = putN [cu] 109 id) := HP0.out
  have C4 : Hid (w4.cell? ⟨w2.heap.size, 0, none⟩ = some (.map (some wb.heap.size))) := HG4.out.cell C3.out (fun q => HCne.out (by simpa using q))
  have U4 : Hid (Below wb.heap.size wb w4) := G3.out.grown HG4.out G3.out.size (fun k hk => by injection hk with hk; omega)
  have BX4 : Hid (w4.heap[w.heap.size]? = some (.cells #[.slice va ts.length vc, .int .i64 seq, .int .i64 next] 49)) := blk_up BX.out U4.out
  have b0 := blk_cell BX4.out 0 _ rfl
  have HUw4 : Hid (Below w.heap.size w wb) := UB.out
  have S4 : Hid (SetN w4 wb.heap.size (needL (((ts.map (·.id)).take 0)) id)) := by rw [HL0.out]; exact HS4.out
  have HVW : Hid (∀ W, Below wb.heap.size wb W → MetsR W (.slice va ts.length vc) ts ∧ Tab W ∧ Below w.heap.size w W) := by
    intro W hW
    have hb : Below w.heap.size w W := UB.out.trans (hW.mono UB.out.size)
    exact ⟨HV.out.up hb, HT.out.up hb, hb⟩
  clear HS4 HG4 HL0 HP0 BX4 BX UB U2 U3 S3 C3 G2 G3 HV HT HUw4 HW HW3
  go_wp2_with fail
  go_loopw [19] (fun i wr => ∃ k : Nat, k ≤ ts.length ∧ i = .int .i64 k ∧ Hid (SetN wr wb.heap.size (needL ((ts.map (·.id)).take k) id)) ∧ Hid (Below wb.heap.size wb wr) ∧ Hid (wr.cell? ⟨w2.heap.size, 0, none⟩ = some (.map (some wb.heap.size)))) (fun i _ => ts.length - (intOf i).toNat)
  case atStart => exact ⟨0, Nat.zero_le _, rfl, S4.out, U4.out, C4.out⟩
  case round =>
    clear S4 C4 U4 b0
    obtain ⟨k, hk, rfl, HS, up, HC⟩ := hrel
    by_cases hlt : k < ts.length
    · have hlt' : (k : Int) < (ts.length : Int) := by omega
      obtain ⟨b, off, cap', y, e, hy, c0, c1, c2, c3, c4⟩ := (HVW.out _ up.out).1.at k hlt
      simp at e
      obtain ⟨rfl, rfl⟩ := e
      have HL : Hid (needL ((ts.map (·.id)).take (k + 1)) id = putN (needL ((ts.map (·.id)).take k) id) 116 y.id) := by
        unfold Hid
        rw [← needL_snoc, List.take_add_one, List.getElem?_map, hy]
        rfl
      obtain ⟨wx, hwx⟩ : ∃ wx, wx = wr.alloc (.cells #[.int .i64 y.id, .int .i64 y.lvl, .int .i64 y.cnt, .string y.low, .string y.high] 82) := ⟨_, rfl⟩
      have HX : Hid (wr.alloc (.cells #[.int .i64 y.id, .int .i64 y.lvl, .int .i64 y.cnt, .string y.low, .string y.high] 82) = wx) := hwx.symm
      have upx : Hid (Below wr.heap.size wr wx) := by rw [hwx]; exact up_al (Below.refl _ _) _
      have bx : wx.heap[wr.heap.size]? = some (.cells #[.int .i64 y.id, .int .i64 y.lvl, .int .i64 y.cnt, .string y.low, .string y.high] 82) := by rw [hwx]; exact blk_new _ _
      have x0 := blk_cell bx 0 _ rfl
      have HCx : Hid (wx.cell? ⟨w2.heap.size, 0, none⟩ = some (.map (some wb.heap.size))) := (upx.out.cell (World.block_lt_of_cell? wr _ HC.out)).trans HC.out
      have HSx : Hid (SetN wx wb.heap.size (needL ((ts.map (·.id)).take k) id)) := HS.out.up upx.out
      have hUx : Below wb.heap.size wb wx := up.out.trans (upx.out.mono up.out.size)
      have HLN : Hid ((needL ((ts.map (·.id)).take k) id).length < 4611686018427387904) := by
        have := needL_len ((ts.map (·.id)).take k) id
        rw [List.length_take, List.length_map] at this
        unfold Hid
        omega
      have N1 := hid (need1_any 116 y.id (by omega) w2.heap.size wb.heap.size _ wx HCx.out HSx.out HLN.out (HVW.out _ hUx).2.1)
      rw [← HL.out] at N1
      have HUx : Hid (Below wb.heap.size wb wx) := hUx
      clear hwx hy HL HLN HS HSx hUx
      go_upto_region 7 with fail
      rw [HX.out]
      go_wp2_with fail
      refine N1.out.mono ?_
      rintro e w5 ⟨rfl, HS5, HG5⟩
      have C5 : Hid (w5.cell? ⟨w2.heap.size, 0, none⟩ = some (.map (some wb.heap.size))) := HG5.out.cell HCx.out (fun q => HCne.out (by simpa using q))
      have U5 : Hid (Below wb.heap.size wb w5) := HUx.out.grown HG5.out HUx.out.size (fun k hk => by injection hk with hk; omega)
      clear HG5 N1 HCx HUx upx HX bx x0 c0 c1 c2 c3 c4
      go_wp2_with fail
      exact ⟨⟨k + 1, by omega, by go_num, HS5, U5, C5⟩, by simp [intOf]; omega⟩
    · have hlt' : ¬ (k : Int) < (ts.length : Int) := by omega
      obtain rfl : k = ts.length := by omega
      have HS2 : Hid (SetN wr wb.heap.size (needL (ts.map (·.id)) id)) := by
        have := HS.out
        rw [List.take_of_length_le (by rw [List.length_map]; omega)] at this
        exact this
      have hc5 := HC.out
      clear HS HCne
      go_wp2_with fail
      go_ret
      exact ⟨_, rfl, HS2, (HVW.out _ up.out).2.2⟩
end Go.Proofs.YtnchjlimkgbfpaaDoor

/- Files' states as plain data: names, files, the state; read off the memory. -/
namespace Go.Proofs.YtnchjlimkgbfpaaDoor
open Go.RowKit
set_option linter.unusedVariables false

def In64 (x : Int) : Prop := -9223372036854775808 ≤ x ∧ x ≤ 9223372036854775807

def OctL (l : List Int) : Prop := ∀ x ∈ l, 0 ≤ x ∧ x ≤ 255

def nrow (p : List Int × Int) : List Value := [.string (strOfNums p.1), .int .i64 p.2]

/-- Names: each a text and a number. -/
def NamesW (w : World) (v : Value) (l : List (List Int × Int)) : Prop := (∀ p ∈ l, OctL p.1 ∧ p.1.length ≤ 140737488355328 ∧ In64 p.2) ∧ Rws 2 w v (l.map nrow)

theorem NamesW.up {w w' : World} {v : Value} {l : List (List Int × Int)} (h : NamesW w v l) (hb : Below w.heap.size w w') : NamesW w' v l := ⟨h.1, h.2.up hb⟩

theorem NamesW.len {w : World} {v : Value} {l : List (List Int × Int)} (h : NamesW w v l) : ∃ a cap, v = .slice a l.length cap ∧ l.length ≤ cap ∧ cap ≤ maxLen := by
  obtain ⟨a, cap, e, h1, h2⟩ := h.2.len
  rw [List.length_map] at e h1
  exact ⟨a, cap, e, h1, h2⟩

theorem NamesW.at {w : World} {v : Value} {l : List (List Int × Int)} (h : NamesW w v l) (k : Nat) (hk : k < l.length) :
    ∃ b off cap, v = .slice (some ⟨b, off, none⟩) l.length cap ∧ l.length ≤ cap ∧ cap ≤ maxLen ∧ w.cell? ⟨b, off + k * 2, none⟩ = some (.string (strOfNums (l.getD k ([], 0)).1)) ∧ w.cell? ⟨b, off + k * 2 + 1, none⟩ = some (.int .i64 (l.getD k ([], 0)).2) ∧ OctL (l.getD k ([], 0)).1 ∧ (l.getD k ([], 0)).1.length ≤ 140737488355328 ∧ In64 (l.getD k ([], 0)).2 := by
  obtain ⟨b, off, cap, e, h1, h2, hc⟩ := h.2.at k (by rw [List.length_map]; exact hk)
  rw [List.length_map] at e h1
  have hr : (l.map nrow).getD k [] = nrow (l.getD k ([], 0)) := by simp [List.getD, hk]
  rw [hr] at hc
  have hw := h.1 (l.getD k ([], 0)) (by simp [List.getD, hk])
  exact ⟨b, off, cap, e, h1, h2, hc 0 _ rfl, hc 1 _ rfl, hw.1, hw.2.1, hw.2.2⟩

/-- A file's row: its data's slice, and what it is. -/
def frow (y : Value × Int × List Int × Int) : List Value := [.int .i64 y.2.1, y.1, .int .i64 y.2.2.2]

/-- Files: each a number, octets, how many are synced. -/
def FilesW (w : World) (v : Value) (l : List (Int × List Int × Int)) : Prop := ∃ m : List (Value × Int × List Int × Int), m.map (·.2) = l ∧ Rws 3 w v (m.map frow) ∧ ∀ y ∈ m, Octs w y.1 y.2.2.1 ∧ y.2.2.1.length ≤ 140737488355328 ∧ In64 y.2.1 ∧ In64 y.2.2.2

theorem FilesW.up {w w' : World} {v : Value} {l : List (Int × List Int × Int)} (h : FilesW w v l) (hb : Below w.heap.size w w') : FilesW w' v l := by
  obtain ⟨m, h1, h2, h3⟩ := h
  exact ⟨m, h1, h2.up hb, fun y hy => ⟨(h3 y hy).1.up hb, (h3 y hy).2⟩⟩

theorem FilesW.len {w : World} {v : Value} {l : List (Int × List Int × Int)} (h : FilesW w v l) : ∃ a cap, v = .slice a l.length cap ∧ l.length ≤ cap ∧ cap ≤ maxLen := by
  obtain ⟨m, rfl, h2, h3⟩ := h
  obtain ⟨a, cap, e, h1, h2⟩ := h2.len
  rw [List.length_map] at e h1
  rw [List.length_map]
  exact ⟨a, cap, e, h1, h2⟩

theorem FilesW.at {w : World} {v : Value} {l : List (Int × List Int × Int)} (h : FilesW w v l) (k : Nat) (hk : k < l.length) :
    ∃ b off cap u, v = .slice (some ⟨b, off, none⟩) l.length cap ∧ l.length ≤ cap ∧ cap ≤ maxLen ∧ w.cell? ⟨b, off + k * 3, none⟩ = some (.int .i64 (l.getD k (0, [], 0)).1) ∧ w.cell? ⟨b, off + k * 3 + 1, none⟩ = some u ∧ w.cell? ⟨b, off + k * 3 + 2, none⟩ = some (.int .i64 (l.getD k (0, [], 0)).2.2) ∧
      Octs w u (l.getD k (0, [], 0)).2.1 ∧ (l.getD k (0, [], 0)).2.1.length ≤ 140737488355328 ∧ In64 (l.getD k (0, [], 0)).1 ∧ In64 (l.getD k (0, [], 0)).2.2 := by
  obtain ⟨m, rfl, h2, h3⟩ := h
  rw [List.length_map] at hk
  obtain ⟨b, off, cap, e, h1, h2, hc⟩ := h2.at k (by rw [List.length_map]; exact hk)
  rw [List.length_map] at e h1
  have hr : (m.map frow).getD k [] = frow m[k] := by simp [List.getD, hk]
  have hl : (m.map (·.2)).getD k (0, [], 0) = m[k].2 := by simp [List.getD, hk]
  rw [hr] at hc
  rw [hl, List.length_map]
  have hw := h3 m[k] (List.getElem_mem hk)
  exact ⟨b, off, cap, m[k].1, e, h1, h2, hc 0 _ rfl, hc 1 _ rfl, hc 2 _ rfl, hw.1, hw.2.1, hw.2.2.1, hw.2.2.2⟩

theorem Octs.slice {w : World} {v : Value} {l : List Int} (h : Octs w v l) : ∃ a cap, v = .slice a l.length cap ∧ l.length ≤ cap := by
  obtain ⟨_, h⟩ := h
  rcases h with ⟨rfl, a, cap, rfl, _⟩ | ⟨hn, b, off, cap, rfl, hc, hm, hj⟩
  · exact ⟨a, cap, rfl, Nat.zero_le _⟩
  · exact ⟨_, cap, rfl, hc⟩

/-- A state. -/
structure St where
  cap : Int
  files : List (Int × List Int × Int)
  names : List (List Int × Int)
  safe : List (List Int × Int)
  next : Int

def StW (w : World) (v : Value) (s : St) : Prop := ∃ vf vn vs, v = .agg #[.int .i64 s.cap, vf, vn, vs, .int .i64 s.next] ∧ FilesW w vf s.files ∧ NamesW w vn s.names ∧ NamesW w vs s.safe ∧ In64 s.cap ∧ In64 s.next

theorem StW.up {w w' : World} {v : Value} {s : St} (h : StW w v s) (hb : Below w.heap.size w w') : StW w' v s := by
  obtain ⟨vf, vn, vs, e, h1, h2, h3, h4⟩ := h
  exact ⟨vf, vn, vs, e, h1.up hb, h2.up hb, h3.up hb, h4⟩

/-! ### What the document says, plainly -/

def mayOf (s : List Int) : Bool := decide (1 ≤ s.length) && decide (s.length ≤ 32) && s.all fun x => decide (33 ≤ x) && decide (x ≤ 126)

/-- The place of the first that fits; -1: there is none. -/
def placeOf {A : Type} (p : A → Bool) : List A → Int
  | [] => -1
  | x :: l => if p x then 0 else if placeOf p l = -1 then -1 else placeOf p l + 1

theorem placeOf_none {A : Type} (p : A → Bool) (l : List A) (h : ∀ x ∈ l, p x = false) : placeOf p l = -1 := by
  induction l with
  | nil => rfl
  | cons x l ih => simp [placeOf, h x (by simp), ih (fun y hy => h y (by simp [hy]))]

theorem placeOf_at {A : Type} (p : A → Bool) : ∀ (l : List A) (k : Nat) (x : A), l[k]? = some x → p x = true → (∀ y ∈ l.take k, p y = false) → placeOf p l = (k : Int)
  | [], k, x, h, _, _ => by simp at h
  | y :: l, 0, x, h, hp, _ => by
    simp at h
    subst h
    simp [placeOf, hp]
  | y :: l, k + 1, x, h, hp, hn => by
    simp at h
    have e := placeOf_at p l k x h hp (fun z hz => hn z (by simp [hz]))
    simp only [placeOf, hn y (by simp), Bool.false_eq_true, if_false, e]
    rw [if_neg (by omega)]
    omega

def fileOf (l : List (Int × List Int × Int)) (id : Int) : Int := placeOf (fun f => f.1 == id) l
def findOf (l : List (List Int × Int)) (s : List Int) : Int := placeOf (fun p => decide (p.1 = s)) l
def standsOf (l : List (List Int × Int)) (id : Int) : Bool := l.any fun p => p.2 == id
def usedOf (l : List (Int × List Int × Int)) : Int := (l.map fun f => (f.2.1.length : Int)).sum

end Go.Proofs.YtnchjlimkgbfpaaDoor

/- The document's leaves of files: may, file, stands, used, find. -/
namespace Go.Proofs.YtnchjlimkgbfpaaDoor
open Go.RowKit
set_option linter.unusedVariables false

theorem used_take (l : List (Int × List Int × Int)) (k : Nat) (h : k < l.length) : usedOf (l.take (k + 1)) = usedOf (l.take k) + ((l.getD k (0, [], 0)).2.1.length : Int) := by
  rw [take_snoc l k (0, [], 0) h]
  simp [usedOf]

theorem used_pos (l : List (Int × List Int × Int)) : 0 ≤ usedOf l := by
  induction l with
  | nil => simp [usedOf]
  | cons x l ih => simp only [usedOf, List.map_cons, List.sum_cons] at ih ⊢; omega

theorem used_le (l : List (Int × List Int × Int)) (h : ∀ f ∈ l, f.2.1.length ≤ 140737488355328) : usedOf l ≤ (l.length : Int) * 140737488355328 := by
  induction l with
  | nil => simp [usedOf]
  | cons x l ih =>
    have h1 := ih (fun f hf => h f (by simp [hf]))
    have h2 := h x (by simp)
    simp only [usedOf, List.map_cons, List.sum_cons, List.length_cons] at h1 ⊢
    push_cast
    omega

theorem FilesW.data {w : World} {v : Value} {l : List (Int × List Int × Int)} (h : FilesW w v l) : ∀ f ∈ l, f.2.1.length ≤ 140737488355328 := by
  obtain ⟨m, rfl, _, h3⟩ := h
  intro f hf
  obtain ⟨y, hy, rfl⟩ := List.mem_map.1 hf
  exact (h3 y hy).2.1

end Go.Proofs.YtnchjlimkgbfpaaDoor

/- The document's ownNames and without. -/
namespace Go.Proofs.YtnchjlimkgbfpaaDoor
open Go.RowKit
set_option linter.unusedVariables false

theorem Tryd.info80 : (Tryd.prog.info? 80).map (fun i => (i.zero, i.size, i.bytes)) = some (some (.agg #[.string ⟨#[]⟩, .int .i64 0]), 2, 24) := by kernel_rfl

theorem nrow_one (l : List (List Int × Int)) : ∀ cs ∈ l.map nrow, ∀ u ∈ cs, u.oneCell' = true := by
  intro cs hcs u hu
  obtain ⟨p, _, rfl⟩ := List.mem_map.1 hcs
  simp [nrow] at hu
  rcases hu with rfl | rfl <;> rfl

/-- Names in memory of the call's own. -/
def OwnN (w : World) (base : Nat) (e : TypeId) (v : Value) (l : List (List Int × Int)) : Prop := (∀ p ∈ l, OctL p.1 ∧ p.1.length ≤ 140737488355328 ∧ In64 p.2) ∧ OwnR w base e 2 v (l.map nrow)

theorem OwnN.nil (w : World) (base : Nat) (e : TypeId) : OwnN w base e (.slice none 0 0) [] := ⟨(fun p h => by cases h), OwnR.nil _ _ _ _⟩
theorem OwnN.up {w w' : World} {base : Nat} {e : TypeId} {v : Value} {l : List (List Int × Int)} (h : OwnN w base e v l) (hb : Below w.heap.size w w') : OwnN w' base e v l := ⟨h.1, h.2.up hb⟩
theorem NamesW.own {w : World} {base : Nat} {e : TypeId} {v : Value} {l : List (List Int × Int)} (h : OwnN w base e v l) : NamesW w v l := ⟨h.1, Rws.own h.2⟩

def withoutOf (l : List (List Int × Int)) (s : List Int) : List (List Int × Int) := l.filter fun p => !decide (p.1 = s)

theorem without_snoc (l : List (List Int × Int)) (k : Nat) (s : List Int) (h : k < l.length) : withoutOf (l.take (k + 1)) s = withoutOf (l.take k) s ++ (if (l.getD k ([], 0)).1 = s then [] else [l.getD k ([], 0)]) := by
  rw [take_snoc l k ([], 0) h]
  unfold withoutOf
  rw [List.filter_append]
  congr 1
  generalize l.getD k ([], 0) = y
  by_cases c : y.1 = s
  · simp [c]
  · simp [c]

theorem without_wf (l : List (List Int × Int)) (s : List Int) (h : ∀ p ∈ l, OctL p.1 ∧ p.1.length ≤ 140737488355328 ∧ In64 p.2) : ∀ p ∈ withoutOf l s, OctL p.1 ∧ p.1.length ≤ 140737488355328 ∧ In64 p.2 := fun p hp => h p (List.mem_filter.1 hp).1

theorem without_len (l : List (List Int × Int)) (s : List Int) : (withoutOf l s).length ≤ l.length := List.length_filter_le _ _

end Go.Proofs.YtnchjlimkgbfpaaDoor
