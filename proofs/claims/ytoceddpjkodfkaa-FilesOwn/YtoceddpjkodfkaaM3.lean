/- Every act, and every crash, leaves a state that may be. -/
import Derived.Test.YtoceddpjkodfkaaM2
import Derived.Test.YtoceddpjkodfkaaR4
namespace Go.Proofs.Ytoceddpjkodfkaa
open Go.RowKit
set_option linter.unusedVariables false

theorem stands_iff (l : List (List Int × Int)) (x : Int) : standsOf l x = true ↔ x ∈ l.map (·.2) := by
  unfold standsOf
  rw [List.any_eq_true, List.mem_map]
  constructor
  · rintro ⟨p, hp, e⟩
    exact ⟨p, hp, by simpa using e⟩
  · rintro ⟨p, hp, e⟩
    exact ⟨p, hp, by simpa using e⟩

theorem used_nonneg : ∀ l : List (Int × List Int × Int), 0 ≤ usedOf l
  | [] => by simp [usedOf]
  | f :: r => by
    have := used_nonneg r
    simp only [usedOf, List.map_cons, List.sum_cons] at this ⊢
    omega

theorem used_cons (f : Int × List Int × Int) (l : List (Int × List Int × Int)) : usedOf (f :: l) = (f.2.1.length : Int) + usedOf l := by simp [usedOf]
theorem used_append (a b : List (Int × List Int × Int)) : usedOf (a ++ b) = usedOf a + usedOf b := by simp [usedOf]

theorem used_filter (p : Int × List Int × Int → Bool) : ∀ l : List (Int × List Int × Int), usedOf (l.filter p) ≤ usedOf l
  | [] => by simp [usedOf]
  | f :: r => by
    have h := used_filter p r
    rw [List.filter_cons]
    split
    · rw [used_cons, used_cons]; omega
    · rw [used_cons]; omega

theorem used_less : ∀ (a b : List (Int × List Int × Int)), a.length = b.length → (∀ i (h1 : i < a.length) (h2 : i < b.length), a[i].2.1.length ≤ b[i].2.1.length) → usedOf a ≤ usedOf b
  | [], [], _, _ => Int.le_refl _
  | x :: a, y :: b, hl, h => by
    have h0 := h 0 (by simp) (by simp)
    have := used_less a b (by simpa using hl) (fun i h1 h2 => by
      have := h (i + 1) (by simp; omega) (by simp; omega)
      simpa using this)
    rw [used_cons, used_cons]
    simp at h0
    omega
  | [], _ :: _, hl, _ => by simp at hl
  | _ :: _, [], hl, _ => by simp at hl

theorem NamesGood.sub {fs : List (Int × List Int × Int)} {l k : List (List Int × Int)} (h : NamesGood fs l) (hs : k.Sublist l) : NamesGood fs k :=
  ⟨fun p hp => h.may p (hs.subset hp), h.rise.sublist hs, fun p hp => h.ids p (hs.subset hp), h.once.sublist (hs.map _)⟩

theorem NamesGood.over {fs fs' : List (Int × List Int × Int)} {l : List (List Int × Int)} (h : NamesGood fs l) (hs : ∀ p ∈ l, p.2 ∈ fs'.map (·.1)) : NamesGood fs' l := ⟨h.may, h.rise, hs, h.once⟩

theorem nearly_swept {s : St} (h : Nearly s) : Good (sweptOf s) := by
  have hn : ∀ l, NamesGood s.files l → (∀ p ∈ l, (standsOf s.names p.2 || standsOf s.safe p.2) = true) → NamesGood (sweptOf s).files l := by
    intro l hl hst
    refine hl.over fun p hp => ?_
    obtain ⟨f, hf, e⟩ := List.mem_map.1 (hl.ids p hp)
    refine List.mem_map.2 ⟨f, List.mem_filter.2 ⟨hf, ?_⟩, e⟩
    rw [e]
    exact hst p hp
  refine ⟨⟨h.cap0, h.cap1, h.next0, h.next1, Nat.le_trans (List.length_filter_le _ _) h.few, h.rise.filter _, fun f hf => h.ids f (List.mem_filter.1 hf).1, fun f hf => h.sync f (List.mem_filter.1 hf).1, Int.le_trans (used_filter _ _) h.used, ?_, ?_⟩, ?_⟩
  · refine hn _ h.names fun p hp => ?_
    have : standsOf s.names p.2 = true := (stands_iff _ _).2 (List.mem_map.2 ⟨p, hp, rfl⟩)
    rw [this]
    rfl
  · refine hn _ h.safe fun p hp => ?_
    have : standsOf s.safe p.2 = true := (stands_iff _ _).2 (List.mem_map.2 ⟨p, hp, rfl⟩)
    rw [this]
    simp
  · intro f hf
    have := (List.mem_filter.1 hf).2
    simp only [Bool.or_eq_true] at this
    rcases this with q | q
    · exact .inl ((stands_iff _ _).1 q)
    · exact .inr ((stands_iff _ _).1 q)

theorem nearly_names {s : St} (h : Nearly s) {l : List (List Int × Int)} (hl : NamesGood s.files l) : Nearly { s with names := l } :=
  ⟨h.cap0, h.cap1, h.next0, h.next1, h.few, h.rise, h.ids, h.sync, h.used, hl, h.safe⟩
theorem nearly_safe {s : St} (h : Nearly s) {l : List (List Int × Int)} (hl : NamesGood s.files l) : Nearly { s with safe := l } :=
  ⟨h.cap0, h.cap1, h.next0, h.next1, h.few, h.rise, h.ids, h.sync, h.used, h.names, hl⟩

theorem rise_ids {fs : List (Int × List Int × Int)} : (fs.Pairwise fun a b => a.1 < b.1) ↔ (fs.map (·.1)).Pairwise (· < ·) := by rw [List.pairwise_map]

/-- The files are others, of the same numbers. -/
theorem nearly_files {s : St} (h : Nearly s) {fs : List (Int × List Int × Int)} (hi : fs.map (·.1) = s.files.map (·.1)) (hs : ∀ f ∈ fs, 0 ≤ f.2.2 ∧ f.2.2 ≤ (f.2.1.length : Int)) (hu : usedOf fs ≤ s.cap) : Nearly { s with files := fs } := by
  have hl : fs.length = s.files.length := by
    have := congrArg List.length hi
    simpa using this
  refine ⟨h.cap0, h.cap1, h.next0, h.next1, by simp only; rw [hl]; exact h.few, ?_, ?_, hs, hu, ?_, ?_⟩
  · simp only
    rw [rise_ids, hi, ← rise_ids]
    exact h.rise
  · intro f hf
    have : f.1 ∈ s.files.map (·.1) := by rw [← hi]; exact List.mem_map.2 ⟨f, hf, rfl⟩
    obtain ⟨g, hg, e⟩ := List.mem_map.1 this
    have := h.ids g hg
    rw [e] at this
    exact this
  · refine h.names.over fun p hp => ?_
    simp only
    rw [hi]
    exact h.names.ids p hp
  · refine h.safe.over fun p hp => ?_
    simp only
    rw [hi]
    exact h.safe.ids p hp

theorem good_files {s : St} (h : Good s) {fs : List (Int × List Int × Int)} (hi : fs.map (·.1) = s.files.map (·.1)) (hs : ∀ f ∈ fs, 0 ≤ f.2.2 ∧ f.2.2 ≤ (f.2.1.length : Int)) (hu : usedOf fs ≤ s.cap) : Good { s with files := fs } := by
  refine ⟨nearly_files h.toNearly hi hs hu, fun f hf => ?_⟩
  have : f.1 ∈ s.files.map (·.1) := by rw [← hi]; exact List.mem_map.2 ⟨f, hf, rfl⟩
  obtain ⟨g, hg, e⟩ := List.mem_map.1 this
  have := h.all g hg
  rw [e] at this
  exact this

theorem crash_good {s : St} (h : Good s) (keep : List Int) : Good (crashP s keep).1 := by
  unfold crashP
  rw [good_check h]
  simp only [if_true]
  refine nearly_swept ?_
  have hat : ∀ i (h1 : i < (cutTo keep s.files s.files.length).length) (h2 : i < s.files.length), (cutTo keep s.files s.files.length)[i] = cutF s.files[i] (keep.getD i 0) := by
    intro i h1 h2
    have e := cutTo_at keep s.files s.files.length i h2
    rw [if_pos h2] at e
    simpa [List.getD, h1, h2] using e
  have hleft : ∀ i (h2 : i < s.files.length), 0 ≤ leftN s.files[i] (keep.getD i 0) ∧ leftN s.files[i] (keep.getD i 0) ≤ (s.files[i].2.1.length : Int) := by
    intro i h2
    have := h.sync s.files[i] (List.getElem_mem _)
    unfold leftN
    omega
  have hf : Nearly { s with files := cutTo keep s.files s.files.length } := by
    refine nearly_files h.toNearly ?_ ?_ ?_
    · apply List.ext_getElem
      · simp [cutTo_len]
      · intro i h1 h2
        rw [List.getElem_map, List.getElem_map, hat i (by simpa using h1) (by simpa using h2)]
        rfl
    · intro f hf
      obtain ⟨i, hi, rfl⟩ := List.getElem_of_mem hf
      have hi2 : i < s.files.length := by rw [cutTo_len] at hi; exact hi
      rw [hat i hi hi2]
      have := hleft i hi2
      unfold cutF
      simp only
      refine ⟨this.1, ?_⟩
      rw [List.length_take]
      omega
    · refine Int.le_trans (used_less _ s.files (cutTo_len _ _ _) ?_) h.used
      intro i h1 h2
      rw [hat i h1 h2]
      unfold cutF
      simp only
      rw [List.length_take]
      omega
  have h2 : NamesGood (cutTo keep s.files s.files.length) s.safe := hf.safe
  exact nearly_names hf h2
end Go.Proofs.Ytoceddpjkodfkaa
