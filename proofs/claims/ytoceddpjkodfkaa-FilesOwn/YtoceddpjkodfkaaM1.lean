/- A state that the program's Check takes is sound. -/
import Derived.Test.YtoceddpjkodfkaaQD
namespace Go.Proofs.Ytoceddpjkodfkaa
open Go.RowKit
set_option linter.unusedVariables false

theorem nodup_le : ∀ (l k : List Int), l.Nodup → (∀ x ∈ l, x ∈ k) → l.length ≤ k.length
  | [], k, _, _ => by simp
  | x :: l, k, hn, hs => by
    have hx : x ∈ k := hs x (by simp)
    rw [List.nodup_cons] at hn
    have h1 : ∀ y ∈ l, y ∈ k.erase x := by
      intro y hy
      have hne : y ≠ x := fun e => hn.1 (e ▸ hy)
      exact (List.mem_erase_of_ne hne).2 (hs y (by simp [hy]))
    have := nodup_le l (k.erase x) hn.2 h1
    rw [List.length_erase_of_mem hx] at this
    have hp : 0 < k.length := List.length_pos_of_mem hx
    simp only [List.length_cons]
    omega

theorem addId_nodup {ids : List Int} (h : ids.Nodup) (x : Int) : (addId ids x).Nodup := by
  unfold addId
  split
  · exact h
  · rename_i hc
    rw [List.nodup_append]
    refine ⟨h, by simp, ?_⟩
    intro a ha b hb
    simp at hb
    subst hb
    intro e
    subst e
    simp at hc
    exact hc ha

theorem idsOf_nodup (l : List (List Int × Int)) : (idsOf l).Nodup := by
  unfold idsOf
  have h : ∀ (m acc : List Int), acc.Nodup → (m.foldl addId acc).Nodup := by
    intro m
    induction m with
    | nil => intro acc h; exact h
    | cons x m ih => intro acc h; exact ih _ (addId_nodup h x)
  exact h _ _ (by simp)

theorem mem_idsOf (l : List (List Int × Int)) (x : Int) : x ∈ idsOf l ↔ ∃ p ∈ l, p.2 = x := by
  have h := idsOf_mem l x
  constructor
  · intro hx
    have : (idsOf l).contains x = true := by simpa using hx
    rw [h] at this
    unfold standsOf at this
    rw [List.any_eq_true] at this
    obtain ⟨p, hp, e⟩ := this
    exact ⟨p, hp, by simpa using e⟩
  · rintro ⟨p, hp, rfl⟩
    have : standsOf l p.2 = true := by
      unfold standsOf
      rw [List.any_eq_true]
      exact ⟨p, hp, by simp⟩
    rw [← h] at this
    simpa using this

theorem thereF_mem {fs : List (Int × List Int × Int)} {id : Int} (h : thereF fs id = true) : id ∈ fs.map (·.1) := by
  unfold thereF at h
  simp only [Bool.and_eq_true, decide_eq_true_eq] at h
  rw [List.mem_map]
  refine ⟨fs.getD (rankF fs id) (0, [], 0), ?_, h.2⟩
  simp [List.getD, h.1]

theorem names_ok {fs : List (Int × List Int × Int)} {l : List (List Int × Int)} (h : namesMayOf fs l = true) : (∀ k, k < l.length → okNameP fs l k = true) ∧ (idsOf l).length = l.length := by
  unfold namesMayOf at h
  rw [Bool.and_eq_true, decide_eq_true_eq] at h
  exact ⟨all_range_get h.1, h.2⟩

theorem names_there {fs : List (Int × List Int × Int)} {l : List (List Int × Int)} (h : namesMayOf fs l = true) : ∀ p ∈ l, thereF fs p.2 = true := by
  intro p hp
  obtain ⟨k, hk, rfl⟩ := List.getElem_of_mem hp
  have := (names_ok h).1 k hk
  unfold okNameP nameAt at this
  simp only [Bool.and_eq_true] at this
  have e : l.getD k ([], 0) = l[k] := by simp [List.getD, hk]
  rw [e] at this
  exact this.2

theorem names_len {fs : List (Int × List Int × Int)} {l : List (List Int × Int)} (h : namesMayOf fs l = true) : l.length ≤ fs.length := by
  rw [← (names_ok h).2]
  have := nodup_le (idsOf l) (fs.map (·.1)) (idsOf_nodup l) (by
    intro x hx
    obtain ⟨p, hp, rfl⟩ := (mem_idsOf l x).1 hx
    exact thereF_mem (names_there h p hp))
  simpa using this

theorem names_rise {fs : List (Int × List Int × Int)} {l : List (List Int × Int)} (h : namesMayOf fs l = true) : RiseN l := by
  intro a b hab hb
  induction b with
  | zero => omega
  | succ b ih =>
    have h1 := (names_ok h).1 (b + 1) hb
    unfold okNameP nameAt at h1
    simp only [Bool.and_eq_true, Bool.or_eq_true, decide_eq_true_eq] at h1
    have h2 : lessL (l.getD b ([], 0)).1 (l.getD (b + 1) ([], 0)).1 = true := by
      rcases h1.1.2 with q | q
      · omega
      · simpa using q
    rcases Nat.lt_or_ge a b with c | c
    · exact lessL_trans _ _ _ (ih c (by omega)) h2
    · obtain rfl : a = b := by omega
      exact h2

theorem check_parts {s : St} (h : checkP s = true) : boundsOf s = true ∧ filesMayOf s = true ∧ namesMayOf s.files s.names = true ∧ namesMayOf s.files s.safe = true ∧ allNamedOf s = true := by
  unfold checkP at h
  simp only [Bool.and_eq_true] at h
  exact ⟨h.1.1.1.1, h.1.1.1.2, h.1.1.2, h.1.2, h.2⟩

theorem check_sound {s : St} (h : checkP s = true) : Sound s := by
  obtain ⟨h1, h2, h3, h4, h5⟩ := check_parts h
  have hb := bounds_len h1
  have hn := names_len h3
  have hs := names_len h4
  unfold boundsOf at h1
  simp only [Bool.and_eq_true, decide_eq_true_eq] at h1
  exact ⟨⟨hb, by omega, by omega, names_rise h3, filesMay_rise h2⟩, ⟨h1.1.1.1.1, h1.1.1.1.2⟩, ⟨h1.1.1.2, h1.1.2⟩⟩
end Go.Proofs.Ytoceddpjkodfkaa
