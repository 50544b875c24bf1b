/- The document's Check and the program's say the same. -/
import Derived.Test.YtoceddpjkodfkaaU2
import Derived.Test.YtoceddpjkodfkaaM4
namespace Go.Proofs.Ytoceddpjkodfkaa
open Go.RowKit
set_option linter.unusedVariables false

theorem place_iff {A : Type} (p : A → Bool) (l : List A) : 0 ≤ placeOf p l ↔ ∃ x ∈ l, p x = true := by
  induction l with
  | nil => simp [placeOf]
  | cons x l ih =>
    simp only [placeOf]
    by_cases c : p x = true
    · rw [if_pos c]
      exact ⟨fun _ => ⟨x, by simp, c⟩, fun _ => by omega⟩
    · rw [if_neg c]
      have hg := (placeOf_ge p l).1
      by_cases d : placeOf p l = -1
      · rw [if_pos d]
        rw [d] at ih
        constructor
        · intro h; omega
        · rintro ⟨y, hy, hp⟩
          rcases List.mem_cons.1 hy with rfl | hy
          · exact absurd hp c
          · exact ih.2 ⟨y, hy, hp⟩
      · rw [if_neg d]
        constructor
        · intro h
          obtain ⟨y, hy, hp⟩ := ih.1 (by omega)
          exact ⟨y, by simp [hy], hp⟩
        · rintro ⟨y, hy, hp⟩
          omega

theorem file_iff (fs : List (Int × List Int × Int)) (id : Int) : 0 ≤ fileOf fs id ↔ id ∈ fs.map (·.1) := by
  unfold fileOf
  rw [place_iff, List.mem_map]
  constructor
  · rintro ⟨x, hx, h⟩
    exact ⟨x, hx, by simpa using h⟩
  · rintro ⟨x, hx, h⟩
    exact ⟨x, hx, by simpa using h⟩

theorem rise_step {l : List (List Int × Int)} (h : ∀ i, i < l.length → 0 < i → lessL (nameAt l (i - 1)).1 (nameAt l i).1 = true) : RiseN l := by
  intro a b hab hb
  induction b with
  | zero => omega
  | succ b ih =>
    have h1 := h (b + 1) hb (by omega)
    simp only [Nat.add_sub_cancel] at h1
    rcases Nat.lt_or_ge a b with c | c
    · exact lessL_trans _ _ _ (ih c (by omega)) h1
    · obtain rfl : a = b := by omega
      exact h1

theorem riseF_step {l : List (Int × List Int × Int)} (h : ∀ i, i < l.length → 0 < i → (l.getD (i - 1) (0, [], 0)).1 < (l.getD i (0, [], 0)).1) : RiseF l := by
  intro a b hab hb
  induction b with
  | zero => omega
  | succ b ih =>
    have h1 := h (b + 1) hb (by omega)
    simp only [Nat.add_sub_cancel] at h1
    rcases Nat.lt_or_ge a b with c | c
    · have := ih c (by omega)
      omega
    · obtain rfl : a = b := by omega
      exact h1

theorem names_iff (fs : List (Int × List Int × Int)) (l : List (List Int × Int)) : namesOf fs l = true ↔ NamesGood fs l := by
  constructor
  · intro h
    have hok : ∀ i, i < l.length → okName fs l i = true := all_range_get h
    have hp : ∀ i, i < l.length → mayOf (nameAt l i).1 = true ∧ (i = 0 ∨ lessL (nameAt l (i - 1)).1 (nameAt l i).1 = true) ∧ 0 ≤ fileOf fs (nameAt l i).2 ∧ ∀ k, k < i → (nameAt l k).2 ≠ (nameAt l i).2 := by
      intro i hi
      have := hok i hi
      unfold okName at this
      simp only [Bool.and_eq_true, Bool.or_eq_true, decide_eq_true_eq, List.all_eq_true, List.mem_range] at this
      refine ⟨this.1.1.1, this.1.1.2, this.1.2, fun k hk => ?_⟩
      have := this.2 k hk
      simpa using this
    have ha : ∀ p ∈ l, ∃ i, i < l.length ∧ nameAt l i = p := by
      intro p hp
      obtain ⟨i, hi, rfl⟩ := List.getElem_of_mem hp
      exact ⟨i, hi, by simp [nameAt, List.getD, hi]⟩
    refine ⟨?_, ?_, ?_, ?_⟩
    · intro p hpl
      obtain ⟨i, hi, rfl⟩ := ha p hpl
      exact (hp i hi).1
    · refine riseN_pairwise.1 (rise_step fun i hi h0 => ?_)
      rcases (hp i hi).2.1 with c | c
      · omega
      · exact c
    · intro p hpl
      obtain ⟨i, hi, rfl⟩ := ha p hpl
      exact (file_iff _ _).1 (hp i hi).2.2.1
    · unfold List.Nodup
      rw [List.pairwise_map, List.pairwise_iff_getElem]
      intro i j hi hj hij
      have := (hp j hj).2.2.2 i hij
      simpa [nameAt, List.getD, hi, hj] using this
  · intro h
    refine all_range_yes fun i hi => ?_
    have hm : nameAt l i ∈ l := by
      have : nameAt l i = l[i] := by simp [nameAt, List.getD, hi]
      rw [this]
      exact List.getElem_mem _
    unfold okName
    simp only [Bool.and_eq_true, Bool.or_eq_true, decide_eq_true_eq, List.all_eq_true, List.mem_range]
    refine ⟨⟨⟨h.may _ hm, ?_⟩, (file_iff _ _).2 (h.ids _ hm)⟩, ?_⟩
    · rcases Nat.eq_zero_or_pos i with c | c
      · exact Or.inl c
      · exact Or.inr (riseN_pairwise.2 h.rise (i - 1) i (by omega) hi)
    · intro k hk
      have h1 := h.once
      unfold List.Nodup at h1
      rw [List.pairwise_map, List.pairwise_iff_getElem] at h1
      have := h1 k i (by omega) hi hk
      have e1 : nameAt l k = l[k] := by simp [nameAt, List.getD, (show k < l.length by omega)]
      have e2 : nameAt l i = l[i] := by simp [nameAt, List.getD, hi]
      rw [e1, e2]
      simpa using this

theorem few_names {fs : List (Int × List Int × Int)} {l : List (List Int × Int)} (h : NamesGood fs l) : l.length ≤ fs.length := by
  have h1 : (l.map (·.2)).length ≤ (fs.map (·.1)).length := by
    have hs : ∀ x ∈ l.map (·.2), x ∈ fs.map (·.1) := by
      intro x hx
      obtain ⟨p, hp, rfl⟩ := List.mem_map.1 hx
      exact h.ids p hp
    exact nodup_le _ _ h.once hs
  simpa using h1

theorem checkR_iff (s : St) : checkR s = true ↔ Good s := by
  constructor
  · intro h
    unfold checkR headR at h
    simp only [Bool.and_eq_true, decide_eq_true_eq] at h
    obtain ⟨⟨⟨⟨⟨⟨⟨⟨⟨⟨e1, e2⟩, e3⟩, e4⟩, e5⟩, e6⟩, e7⟩, e8⟩, h2⟩, h3⟩, h4⟩ := h
    have hok : ∀ i, i < s.files.length → okR s i = true := all_range_get h2
    have hp : ∀ i, i < s.files.length → 1 ≤ (s.files.getD i (0, [], 0)).1 ∧ (s.files.getD i (0, [], 0)).1 < s.next ∧ (i = 0 ∨ (s.files.getD (i - 1) (0, [], 0)).1 < (s.files.getD i (0, [], 0)).1) ∧ 0 ≤ (s.files.getD i (0, [], 0)).2.2 ∧ (s.files.getD i (0, [], 0)).2.2 ≤ ((s.files.getD i (0, [], 0)).2.1.length : Int) ∧ (standsOf s.names (s.files.getD i (0, [], 0)).1 = true ∨ standsOf s.safe (s.files.getD i (0, [], 0)).1 = true) := by
      intro i hi
      have := hok i hi
      unfold okR at this
      simp only [Bool.and_eq_true, Bool.or_eq_true, decide_eq_true_eq] at this
      obtain ⟨⟨⟨⟨⟨a1, a2⟩, a3⟩, a4⟩, a5⟩, a6⟩ := this
      exact ⟨a1, a2, a3, a4, a5, a6⟩
    have ha : ∀ f ∈ s.files, ∃ i, i < s.files.length ∧ s.files.getD i (0, [], 0) = f := by
      intro f hf
      obtain ⟨i, hi, rfl⟩ := List.getElem_of_mem hf
      exact ⟨i, hi, by simp [List.getD, hi]⟩
    refine ⟨⟨e1, e2, e4, e5, e3, ?_, ?_, ?_, e6, (names_iff _ _).1 h3, (names_iff _ _).1 h4⟩, ?_⟩
    · refine riseF_pairwise.1 (riseF_step fun i hi h0 => ?_)
      rcases (hp i hi).2.2.1 with c | c
      · omega
      · exact c
    · intro f hf
      obtain ⟨i, hi, rfl⟩ := ha f hf
      exact ⟨(hp i hi).1, (hp i hi).2.1⟩
    · intro f hf
      obtain ⟨i, hi, rfl⟩ := ha f hf
      exact ⟨(hp i hi).2.2.2.1, (hp i hi).2.2.2.2.1⟩
    · intro f hf
      obtain ⟨i, hi, rfl⟩ := ha f hf
      rcases (hp i hi).2.2.2.2.2 with c | c
      · exact Or.inl ((stands_iff _ _).1 c)
      · exact Or.inr ((stands_iff _ _).1 c)
  · intro h
    have n1 := few_names h.names
    have n2 := few_names h.safe
    have hfew := h.few
    unfold checkR headR
    simp only [Bool.and_eq_true, decide_eq_true_eq]
    refine ⟨⟨⟨⟨⟨⟨⟨⟨⟨⟨h.cap0, h.cap1⟩, h.few⟩, h.next0⟩, h.next1⟩, h.used⟩, by omega⟩, by omega⟩, ?_⟩, (names_iff _ _).2 h.names⟩, (names_iff _ _).2 h.safe⟩
    refine all_range_yes fun i hi => ?_
    have hm : s.files.getD i (0, [], 0) ∈ s.files := by
      have : s.files.getD i (0, [], 0) = s.files[i] := by simp [List.getD, hi]
      rw [this]
      exact List.getElem_mem _
    unfold okR
    simp only [Bool.and_eq_true, Bool.or_eq_true, decide_eq_true_eq]
    refine ⟨⟨⟨⟨⟨(h.ids _ hm).1, (h.ids _ hm).2⟩, ?_⟩, (h.sync _ hm).1⟩, (h.sync _ hm).2⟩, ?_⟩
    · rcases Nat.eq_zero_or_pos i with c | c
      · exact Or.inl c
      · exact Or.inr (riseF_pairwise.2 h.rise (i - 1) i (by omega) hi)
    · rcases h.all _ hm with c | c
      · exact Or.inl ((stands_iff _ _).2 c)
      · exact Or.inr ((stands_iff _ _).2 c)

theorem checkR_eq (s : St) : checkR s = checkP s := by
  rw [Bool.eq_iff_iff, checkR_iff, check_iff]

/-- The document's Check says what the program's says. -/
theorem refCheck_any (s : St) (v : Value) (w : World) (hv : StW w v s) :
    Calls Try.prog 24 #[v] w fun e w' => e = .returned (.int .i64 (errOf (checkP s))) ∧ Below w.heap.size w w' := by
  rw [← checkR_eq]
  have hs : checkR s = (headR s && allR s) := by unfold checkR allR; simp only [Bool.and_assoc]
  cases hh : headR s
  · have : checkR s = false := by rw [hs, hh]; rfl
    rw [this]
    exact refCheck_head s v w hv hh
  · have : checkR s = allR s := by rw [hs, hh]; rfl
    rw [this]
    exact refCheck_rest s v w hv hh
end Go.Proofs.Ytoceddpjkodfkaa
