/- What PickWhole wants, plainly. -/
import Derived.Test.YtjdibpmckeifhaaJChM
namespace Go.Proofs.Ytjdibpmckeifhaa
open Go.RowKit
set_option linter.unusedVariables false
set_option linter.unusedSimpArgs false

/-- What a plan says of a version's tables. -/
structure WholeF (ts : List Me) (lev : Int) (ids : List Int) : Prop where
  lv : 0 ≤ lev ∧ lev ≤ 2
  lvl : ∀ m ∈ ts, m.id ∈ ids → m.lvl = lev ∨ m.lvl = lev + 1
  zero : ∀ m ∈ ts, m.id ∉ ids → m.lvl = 0 → lev ≠ 0
  apart : ∀ m ∈ ts, ∀ o ∈ ts, m.id ∉ ids → m.lvl = lev + 1 → o.lvl = lev → o.id ∈ ids → leM o.low m.high = true → leM m.low o.high = true → False
  cnt : (ts.filter (fun m => decide (m.id ∈ ids))).length = ids.length
  pos : 0 < ids.length
theorem whole_facts {ts : List Me} {seq next lev : Int} {r : List Int} {p : PlanM} (h : errV ts seq next = 0) (hf : fullM ts = lev :: r) (hp : planM ts lev = some p) : WholeF ts lev ((p.top ++ p.below).map (·.id)) := by
  have ha := chk_all h
  obtain ⟨hn, ht, hb⟩ := nodup_plan ha hp
  have hsub : ∀ m ∈ p.top ++ p.below, m ∈ ts := fun m hm => by
    rcases List.mem_append.1 hm with q | q
    · exact (ht m q).1
    · exact (hb m q).1
  obtain ⟨x, rr, hch, htop, hlow, hhigh, hbelow, hplev, hbot⟩ := plan_parts hp
  refine ⟨?_, fun m hm q => ?_, fun m hm q ql => ?_, fun m hm o ho q ml ol q2 h1 h2 => ?_, ?_, ?_⟩
  · rcases full_lev hf with q | q | q <;> omega
  · have := (id_in ha hsub hm).1 q
    rcases List.mem_append.1 this with q | q
    · exact .inl (ht m q).2
    · exact .inr (hb m q).2
  · intro e
    subst e
    apply q
    refine (id_in ha hsub hm).2 (List.mem_append_left _ ?_)
    rw [htop, ← hch, chosen_zero]
    exact mem_at.2 ⟨hm, ql⟩
  · have q3 := (id_in ha hsub ho).1 q2
    have q4 : o ∈ p.top := by
      rcases List.mem_append.1 q3 with q | q
      · exact q
      · have := (hb o q).2; omega
    refine plan_whole hp q4 hm ml (fun q5 => q ?_) (chk_le h ho) ⟨h1, h2⟩
    exact (id_in ha hsub hm).2 (List.mem_append_right _ q5)
  · rw [List.length_map]
    exact count_in ha hsub hn
  · rw [List.length_map, List.length_append, htop, List.length_cons]
    omega
def cntI (ts : List Me) (ids : List Int) (k : Nat) : Nat := ((ts.take k).filter (fun m => decide (m.id ∈ ids))).length
theorem cntI_step {ts : List Me} {k : Nat} {x : Me} (h : ts[k]? = some x) (ids : List Int) : cntI ts ids (k + 1) = cntI ts ids k + (if decide (x.id ∈ ids) = true then 1 else 0) := by
  unfold cntI
  rw [List.take_add_one, h, Option.toList_some, List.filter_append, List.length_append]
  congr 1
  cases q : decide (x.id ∈ ids) <;> simp [q]
theorem cntI_le (ts : List Me) (ids : List Int) (k : Nat) : cntI ts ids k ≤ ts.length := by
  have := List.length_filter_le (fun m : Me => decide (m.id ∈ ids)) (ts.take k)
  rw [List.length_take] at this
  unfold cntI
  omega
theorem leM_eq (a b : ByteArray) : (Op.bytesLess a.toList b.toList || (a.toList == b.toList)) = leM a b := rfl
end Go.Proofs.Ytjdibpmckeifhaa
