/- The document's Check of layer 11. -/
import Derived.Test.YtjdibpmckeifhaaELeaf
import Derived.Test.YtjdibpmckeifhaaLUp
import Derived.Test.YtjdibpmckeifhaaRBase
namespace Go.Proofs.Ytjdibpmckeifhaa
open Go.RowKit
set_option linter.unusedVariables false
set_option linter.unusedSimpArgs false

/-- The slice v holds in w the metas l. -/
def MetsR (w : World) (v : Value) (l : List Me) : Prop := Rws 5 w v (l.map meRow)
theorem MetsR.up {w w' : World} {v : Value} {l : List Me} (h : MetsR w v l) (hb : Below w.heap.size w w') : MetsR w' v l := Rws.up h hb
theorem MetsR.len {w : World} {v : Value} {l : List Me} (h : MetsR w v l) : ∃ a cap, v = .slice a l.length cap ∧ l.length ≤ cap ∧ cap ≤ maxLen := by
  obtain ⟨a, c, e, h1, h2⟩ := Rws.len h
  simp only [List.length_map] at e h1
  exact ⟨a, c, e, h1, h2⟩
theorem MetsR.at {w : World} {v : Value} {l : List Me} (h : MetsR w v l) (k : Nat) (hk : k < l.length) :
    ∃ b off cap n, v = .slice (some ⟨b, off, none⟩) l.length cap ∧ l[k]? = some n ∧ w.cell? ⟨b, off + k * 5, none⟩ = some (.int .i64 n.id) ∧ w.cell? ⟨b, off + k * 5 + 1, none⟩ = some (.int .i64 n.lvl) ∧ w.cell? ⟨b, off + k * 5 + 2, none⟩ = some (.int .i64 n.cnt) ∧ w.cell? ⟨b, off + k * 5 + 3, none⟩ = some (.string n.low) ∧ w.cell? ⟨b, off + k * 5 + 4, none⟩ = some (.string n.high) := by
  obtain ⟨b, off, cap, e, _, _, hc⟩ := Rws.at h k (by simpa using hk)
  simp only [List.length_map] at e
  have hg : (l.map meRow).getD k [] = meRow l[k] := by simp [List.getD, hk]
  rw [hg] at hc
  refine ⟨b, off, cap, l[k], e, by simp [hk], ?_, ?_, ?_, ?_, ?_⟩
  · simpa using hc 0 _ rfl
  · simpa using hc 1 _ rfl
  · simpa using hc 2 _ rfl
  · simpa using hc 3 _ rfl
  · simpa using hc 4 _ rfl

theorem refMayP (m : Me) (x : Bool) (h : mayM m = x) (w : World) : Calls Try.prog 36 #[meV m] w fun e w' => e = .returned (.bool x) ∧ Below w.heap.size w w' := by
  refine (refMayM_any m w).mono ?_
  rintro e w' ⟨rfl, rfl⟩
  exact ⟨by rw [h], up_alloc _ _⟩
theorem refBefP (a b : Me) (x : Bool) (h : befM a b = x) (w : World) : Calls Try.prog 37 #[meV a, meV b] w fun e w' => e = .returned (.bool x) ∧ Below w.heap.size w w' := by
  refine (refBefM_any a b w).mono ?_
  rintro e w' ⟨rfl, rfl⟩
  exact ⟨by rw [h], up_al (up_alloc _ _) _⟩

/-- What the first test of a round asks. -/
def headM (next : Int) (p : Option Me) (m : Me) : Bool :=
  mayM m && (decide (m.id < next) && (match p with | none => true | some p => befM p m && !(decide (0 < m.lvl) && (decide (p.lvl = m.lvl) && leM m.low p.high))))
def lastM (l : List Me) (k : Nat) : Option Me := if k = 0 then none else l[k - 1]?
theorem lastM_take (l : List Me) (k : Nat) (hk : k ≤ l.length) : (l.take k).getLast? = lastM l k := by
  unfold lastM
  by_cases h : k = 0
  · subst h; simp
  · rw [if_neg h, List.getLast?_eq_getElem?, List.length_take, Nat.min_eq_left hk, List.getElem?_take_of_lt (by omega)]
theorem okM_eq (next : Int) (l : List Me) (k : Nat) (hk : k ≤ l.length) (m : Me) : okM next (l.take k) m = (headM next (lastM l k) m && (l.take k).all (fun p => decide (p.id ≠ m.id))) := by
  unfold okM headM
  rw [lastM_take l k hk]
  cases lastM l k <;> simp only [Bool.and_assoc]
theorem allM_step (next : Int) (l : List Me) (k : Nat) (m : Me) (h : l[k]? = some m) : allM next (l.take k) (l.drop k) = (okM next (l.take k) m && allM next (l.take (k + 1)) (l.drop (k + 1))) := by
  have hk := (List.getElem?_eq_some_iff.1 h).1
  rw [List.drop_eq_getElem_cons hk, (List.getElem?_eq_some_iff.1 h).2, allM, List.take_add_one, h]
  rfl
theorem errV_goes {ts : List Me} {seq next : Int} {k : Nat} {m : Me} (h : errV ts seq next = if allM next (ts.take k) (ts.drop k) = true then 0 else 9) (hm : ts[k]? = some m) (hh : headM next (lastM ts k) m = true) (hi : (ts.take k).all (fun p => decide (p.id ≠ m.id)) = true) : errV ts seq next = if allM next (ts.take (k + 1)) (ts.drop (k + 1)) = true then 0 else 9 := by
  rw [h, allM_step next ts k m hm, okM_eq next ts k (Nat.le_of_lt (List.getElem?_eq_some_iff.1 hm).1) m, hh, hi]
  rfl
theorem errV_ends {ts : List Me} {seq next : Int} {k : Nat} {m : Me} (h : errV ts seq next = if allM next (ts.take k) (ts.drop k) = true then 0 else 9) (hm : ts[k]? = some m) (hh : headM next (lastM ts k) m = false ∨ (ts.take k).all (fun p => decide (p.id ≠ m.id)) = false) : errV ts seq next = 9 := by
  rw [h, allM_step next ts k m hm, okM_eq next ts k (Nat.le_of_lt (List.getElem?_eq_some_iff.1 hm).1) m]
  rcases hh with hh | hh <;> rw [hh] <;> simp
theorem errV_done {ts : List Me} {seq next : Int} {k : Nat} (h : errV ts seq next = if allM next (ts.take k) (ts.drop k) = true then 0 else 9) (hk : ts.length ≤ k) : errV ts seq next = 0 := by
  rw [h, List.drop_eq_nil_of_le hk]; rfl
theorem errV_bad {ts : List Me} {seq next : Int} (h : ¬ (ts.length ≤ 256 ∧ 1 ≤ next ∧ next ≤ 2147483647 ∧ 0 ≤ seq ∧ seq ≤ 1099511627776)) : errV ts seq next = 9 := by
  unfold errV chkV
  rw [decide_eq_false h]
  simp
theorem errV_start {ts : List Me} {seq next : Int} (h : ts.length ≤ 256 ∧ 1 ≤ next ∧ next ≤ 2147483647 ∧ 0 ≤ seq ∧ seq ≤ 1099511627776) : errV ts seq next = if allM next (ts.take 0) (ts.drop 0) = true then 0 else 9 := by
  unfold errV chkV
  rw [decide_eq_true h]
  simp
end Go.Proofs.Ytjdibpmckeifhaa
