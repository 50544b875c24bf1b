/- The program's follows, and what Check says, in plain words. -/
import Derived.Test.YtjdibpmckeifhaaAMap
namespace Go.Proofs.Ytjdibpmckeifhaa
open Go.RowKit
set_option linter.unusedVariables false
set_option linter.unusedSimpArgs false

theorem ordM_lt (a b : Me) : decide (ordM a b < 0) = befM a b := by
  unfold ordM befM cmpI cmpS
  by_cases e : a.lvl = b.lvl
  · rw [if_pos e]
    rw [if_pos (by rw [if_neg (by omega), if_neg (by omega)])]
    by_cases z : a.lvl = 0
    · rw [if_pos z, if_pos z]
      by_cases h1 : b.id < a.id
      · simp [h1]
      · by_cases h2 : a.id < b.id <;> simp [h1, h2]
    · rw [if_neg z, if_neg z]
      cases h1 : Op.bytesLess a.low.toList b.low.toList
      · cases h2 : Op.bytesLess b.low.toList a.low.toList <;> simp
      · simp
  · rw [if_neg e]
    by_cases h1 : a.lvl < b.lvl
    · simp [h1]
    · have h2 : b.lvl < a.lvl := by omega
      simp [h1, h2]
/-- What follows answers. -/
def folM (a b : Me) : Bool := if a.lvl = b.lvl ∧ 0 < b.lvl then Op.bytesLess a.high.toList b.low.toList else decide (ordM a b < 0)
theorem folM_eq (p m : Me) (hp : leM p.low p.high = true) : folM p m = (befM p m && !(decide (0 < m.lvl) && (decide (p.lvl = m.lvl) && leM m.low p.high))) := by
  unfold folM
  by_cases h : p.lvl = m.lvl ∧ 0 < m.lvl
  · rw [if_pos h, decide_eq_true h.1, decide_eq_true h.2, Bool.true_and, Bool.true_and]
    have hb : befM p m = Op.bytesLess p.low.toList m.low.toList := by
      unfold befM
      rw [if_pos h.1, if_neg (by omega)]
    rw [hb]
    cases q : leM m.low p.high
    · have q2 := leM_not.1 q
      rw [q2, leM_lt hp q2]
      rfl
    · cases r : Op.bytesLess p.high.toList m.low.toList
      · simp
      · have := leM_not.2 r
        rw [q] at this
        cases this
  · rw [if_neg h, ordM_lt]
    have : (decide (0 < m.lvl) && (decide (p.lvl = m.lvl) && leM m.low p.high)) = false := by
      by_cases h1 : 0 < m.lvl
      · have h2 : ¬ p.lvl = m.lvl := fun e => h ⟨e, h1⟩
        simp [h2]
      · simp [h1]
    rw [this]
    simp

/-! ### the numbers seen -/
def idsM (l : List Me) : List Int := (l.map Me.id).foldl addId []
theorem idsM_snoc (l : List Me) (m : Me) : idsM (l ++ [m]) = addId (idsM l) m.id := by simp [idsM, List.foldl_append]
theorem fold_le : ∀ (l acc : List Int), (l.foldl addId acc).length ≤ acc.length + l.length
  | [], acc => by simp
  | x :: l, acc => by
    have h1 := fold_le l (addId acc x)
    have h2 : (addId acc x).length ≤ acc.length + 1 := by unfold addId; split <;> simp
    simp only [List.foldl_cons, List.length_cons]
    omega
theorem idsM_len (l : List Me) : (idsM l).length ≤ l.length := by
  have := fold_le (l.map Me.id) []
  simpa [idsM] using this
theorem fold_full : ∀ (l acc : List Int), acc.Nodup → ((l.foldl addId acc).length = acc.length + l.length ↔ (acc ++ l).Nodup)
  | [], acc, h => by simp [h]
  | x :: l, acc, h => by
    simp only [List.foldl_cons, List.length_cons]
    by_cases q : acc.contains x = true
    · have e : addId acc x = acc := by unfold addId; rw [if_pos q]
      rw [e]
      have h1 := fold_le l acc
      have h2 : ¬ (acc ++ x :: l).Nodup := by
        intro hn
        rw [List.nodup_append] at hn
        exact hn.2.2 x (by simpa using q) x (by simp) rfl
      exact ⟨fun k => by omega, fun k => absurd k h2⟩
    · have e : addId acc x = acc ++ [x] := by unfold addId; rw [if_neg q]
      rw [e]
      have hn : (acc ++ [x]).Nodup := by
        rw [List.nodup_append]
        refine ⟨h, by simp, fun a ha b hb => ?_⟩
        simp at hb
        subst hb
        intro e2
        subst e2
        exact q (by simpa using ha)
      have := fold_full l (acc ++ [x]) hn
      simp only [List.length_append, List.length_cons, List.length_nil, List.append_assoc, List.cons_append, List.nil_append] at this
      rw [← this]
      omega
theorem idsM_full (l : List Me) : (idsM l).length = l.length ↔ (l.map Me.id).Nodup := by
  have := fold_full (l.map Me.id) [] (by simp)
  simpa [idsM] using this
theorem fold_nodup : ∀ (l acc : List Int), acc.Nodup → (l.foldl addId acc).Nodup
  | [], acc, h => h
  | x :: l, acc, h => by
    refine fold_nodup l _ ?_
    unfold addId
    split
    · exact h
    · rename_i q
      rw [List.nodup_append]
      refine ⟨h, by simp, fun a ha b hb => ?_⟩
      simp at hb
      subst hb
      intro e2
      subst e2
      exact q (by simpa using ha)
theorem idsM_nodup (l : List Me) : (idsM l).Nodup := fold_nodup _ _ (by simp)
theorem fold_mem : ∀ (l acc : List Int) (x : Int), x ∈ l.foldl addId acc ↔ x ∈ acc ∨ x ∈ l
  | [], acc, x => by simp
  | y :: l, acc, x => by
    rw [List.foldl_cons, fold_mem l]
    unfold addId
    split
    · rename_i q
      have : y ∈ acc := by simpa using q
      constructor
      · rintro (h | h)
        · exact .inl h
        · exact .inr (by simp [h])
      · rintro (h | h)
        · exact .inl h
        · rcases List.mem_cons.1 h with rfl | h
          · exact .inl this
          · exact .inr h
    · simp [or_assoc]
theorem idsM_mem (l : List Me) (x : Int) : x ∈ idsM l ↔ ∃ m ∈ l, m.id = x := by
  unfold idsM
  rw [fold_mem]
  simp

/-- A version may be just if each table stands behind the one ahead, and no two have one number. -/
theorem allM_iff (next : Int) (ts : List Me) : allM next [] ts = true ↔ (∀ k m, ts[k]? = some m → headM next (lastM ts k) m = true) ∧ (ts.map Me.id).Nodup := by
  have hall : ∀ k (m : Me), (ts.take k).all (fun p => decide (p.id ≠ m.id)) = true ↔ ∀ j p, j < k → ts[j]? = some p → p.id ≠ m.id := by
    intro k m
    rw [List.all_eq_true]
    constructor
    · intro h j p hj hp
      have := h p (by
        rw [List.mem_take_iff_getElem]
        have q := List.getElem?_eq_some_iff.1 hp
        exact ⟨j, by have := q.1; omega, q.2⟩)
      simpa using this
    · intro h p hp
      rw [List.mem_take_iff_getElem] at hp
      obtain ⟨j, hj, rfl⟩ := hp
      simpa using h j _ (by omega) (List.getElem?_eq_getElem (by omega))
  constructor
  · intro h
    refine ⟨fun k m hm => ?_, ?_⟩
    · have := allM_at next ts [] h k m hm
      rw [List.nil_append, okM_eq next ts k (Nat.le_of_lt (List.getElem?_eq_some_iff.1 hm).1) m, Bool.and_eq_true] at this
      exact this.1
    · unfold List.Nodup
      rw [List.pairwise_map, List.pairwise_iff_getElem]
      intro i j hi hj hij
      have := allM_at next ts [] h j ts[j] (List.getElem?_eq_getElem hj)
      rw [List.nil_append, okM_eq next ts j (Nat.le_of_lt hj) _, Bool.and_eq_true] at this
      exact (hall j _).1 this.2 i ts[i] hij (List.getElem?_eq_getElem hi)
  · rintro ⟨h1, h2⟩
    refine allM_of next ts [] (fun k m hm => ?_)
    rw [List.nil_append, okM_eq next ts k (Nat.le_of_lt (List.getElem?_eq_some_iff.1 hm).1) m, Bool.and_eq_true]
    refine ⟨h1 k m hm, (hall k m).2 (fun j p hj hp => ?_)⟩
    unfold List.Nodup at h2
    rw [List.pairwise_map, List.pairwise_iff_getElem] at h2
    have q := List.getElem?_eq_some_iff.1 hp
    have r := List.getElem?_eq_some_iff.1 hm
    have := h2 j k q.1 r.1 hj
    rw [q.2, r.2] at this
    exact this
def HdrV (n : Nat) (seq next : Int) : Prop := n ≤ 256 ∧ 1 ≤ next ∧ next ≤ 2147483647 ∧ 0 ≤ seq ∧ seq ≤ 1099511627776
theorem errV_head {ts : List Me} {seq next : Int} {k : Nat} {m : Me} (hm : ts[k]? = some m) (h : headM next (lastM ts k) m = false) : errV ts seq next = 9 := by
  unfold errV chkV
  cases q : allM next [] ts
  · simp
  · have := ((allM_iff next ts).1 q).1 k m hm
    rw [h] at this
    cases this
theorem errV_twice {ts : List Me} {seq next : Int} (h : (idsM ts).length < ts.length) : errV ts seq next = 9 := by
  unfold errV chkV
  cases q : allM next [] ts
  · simp
  · have := (idsM_full ts).2 ((allM_iff next ts).1 q).2
    omega
theorem errV_fine {ts : List Me} {seq next : Int} (h0 : HdrV ts.length seq next) (h1 : ∀ k m, ts[k]? = some m → headM next (lastM ts k) m = true) (h2 : ¬ (idsM ts).length < ts.length) : errV ts seq next = 0 := by
  unfold HdrV at h0
  have := idsM_len ts
  unfold errV chkV
  rw [decide_eq_true h0, (allM_iff next ts).2 ⟨h1, (idsM_full ts).1 (by omega)⟩]
  rfl

set_option maxHeartbeats 2000000 in
set_option maxRecDepth 100000 in
theorem follows_any (a b : Me) (w : World) :
    Calls Try.prog 40 #[meV a, meV b] w fun e w' => e = .returned (.bool (folM a b)) ∧ Hid (Below w.heap.size w w') := by
  have HO : Hid (∀ w, Calls Try.prog 51 #[meV a, meV b] w fun e w' => e = .returned (.int .i64 (ordM a b)) ∧ w' = (w.alloc (meBox a)).alloc (meBox b)) := fun w => order_any a b w
  have HU : Hid (∀ W : World, Below w.heap.size w W → Below w.heap.size w ((W.alloc (meBox a)).alloc (meBox b))) := fun W h => up_al (up_al h _) _
  have HF : Hid (∀ r, folM a b = r → (if a.lvl = b.lvl ∧ 0 < b.lvl then Op.bytesLess a.high.toList b.low.toList else decide (ordM a b < 0)) = r) := fun r h => h
  generalize hR : folM a b = R at HF ⊢
  replace hR := HF.out R rfl
  clear HF
  obtain ⟨ai, al, ac, alo, ahi⟩ := a
  obtain ⟨bi, bl, bc, blo, bhi⟩ := b
  unfold meBox at HU HO
  simp only at hR HU HO
  generalize ordM ⟨ai, al, ac, alo, ahi⟩ ⟨bi, bl, bc, blo, bhi⟩ = O at *
  unfold meV at HO ⊢
  simp only at HO ⊢
  have HB0 : Hid (Below w.heap.size w ((w.alloc (.cells #[.int .i64 ai, .int .i64 al, .int .i64 ac, .string alo, .string ahi] 70)).alloc (.cells #[.int .i64 bi, .int .i64 bl, .int .i64 bc, .string blo, .string bhi] 70))) := up_al (up_alloc _ _) _
  have HRR : Hid ((if al = bl ∧ 0 < bl then Op.bytesLess ahi.toList blo.toList else decide (O < 0)) = R) := hR
  clear hR
  by_cases h1 : al = bl
  · have h1' : (al == bl) = true := by simp [h1]
    by_cases h2 : 0 < bl
    · have HR2 : Hid (Op.bytesLess ahi.toList blo.toList = R) := by have := HRR.out; rw [if_pos ⟨h1, h2⟩] at this; exact this
      clear HRR HO h1
      go_enter Try.func40, Try.ntmps40
      go_wp2_with fail
      go_ret
      exact ⟨by rw [← HR2.out]; rfl, HB0⟩
    · have HR2 : Hid (decide (O < 0) = R) := by have := HRR.out; rw [if_neg (fun q => h2 q.2)] at this; exact this
      clear HRR h1
      go_enter Try.func40, Try.ntmps40
      go_wp2_with fail
      refine (HO.out _).mono ?_
      rintro e w1 ⟨rfl, hw1⟩
      have HB1 := hid (HU.out _ HB0.out)
      rw [← hw1] at HB1
      clear hw1
      go_wp2_with fail
      go_ret
      exact ⟨by rw [← HR2.out]; rfl, HB1⟩
  · have h1' : (al == bl) = false := by simp [h1]
    have HR2 : Hid (decide (O < 0) = R) := by have := HRR.out; rw [if_neg (fun q => h1 q.1)] at this; exact this
    clear HRR
    go_enter Try.func40, Try.ntmps40
    go_wp2_with fail
    refine (HO.out _).mono ?_
    rintro e w1 ⟨rfl, hw1⟩
    have HB1 := hid (HU.out _ HB0.out)
    rw [← hw1] at HB1
    clear hw1
    go_wp2_with fail
    go_ret
    exact ⟨by rw [← HR2.out]; rfl, HB1⟩
end Go.Proofs.Ytjdibpmckeifhaa
