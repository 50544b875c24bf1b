/- What the program's Check asks, said plainly. -/
import Derived.Test.YtoceddpjkodfkaaM1
namespace Go.Proofs.Ytoceddpjkodfkaa
open Go.RowKit
set_option linter.unusedVariables false

theorem fold_le : ∀ (m acc : List Int), (m.foldl addId acc).length ≤ acc.length + m.length
  | [], acc => by simp
  | x :: r, acc => by
    have h := fold_le r (addId acc x)
    have h2 : (addId acc x).length ≤ acc.length + 1 := by
      unfold addId
      split <;> simp
    simp only [List.foldl_cons, List.length_cons]
    omega

theorem fold_nodup : ∀ (m acc : List Int), acc.Nodup → (m.foldl addId acc).length = acc.length + m.length → (acc ++ m).Nodup
  | [], acc, h, _ => by simpa using h
  | x :: r, acc, h, e => by
    simp only [List.foldl_cons, List.length_cons] at e
    by_cases c : acc.contains x = true
    · have ha : addId acc x = acc := by unfold addId; rw [if_pos c]
      rw [ha] at e
      have := fold_le r acc
      omega
    · have ha : addId acc x = acc ++ [x] := by unfold addId; rw [if_neg c]
      have hn := addId_nodup h x
      rw [ha] at e hn
      have := fold_nodup r (acc ++ [x]) hn (by rw [e]; simp; omega)
      simpa using this

theorem fold_len : ∀ (m acc : List Int), (acc ++ m).Nodup → (m.foldl addId acc).length = acc.length + m.length
  | [], acc, _ => by simp
  | x :: r, acc, h => by
    have hx : ¬ acc.contains x = true := by
      intro q
      have q' : x ∈ acc := by simpa using q
      rw [List.nodup_append] at h
      exact h.2.2 x q' x (by simp) rfl
    have ha : addId acc x = acc ++ [x] := by unfold addId; rw [if_neg hx]
    simp only [List.foldl_cons, List.length_cons]
    rw [ha, fold_len r (acc ++ [x]) (by simpa using h)]
    simp
    omega

theorem ids_nodup (l : List (List Int × Int)) : (idsOf l).length = l.length ↔ (l.map (·.2)).Nodup := by
  unfold idsOf
  constructor
  · intro h
    have := fold_nodup (l.map (·.2)) [] (by simp) (by rw [h]; simp)
    simpa using this
  · intro h
    rw [fold_len (l.map (·.2)) [] (by simpa using h)]
    simp

/-- Names that may be, over files. -/
structure NamesGood (fs : List (Int × List Int × Int)) (l : List (List Int × Int)) : Prop where
  may : ∀ p ∈ l, mayOf p.1 = true
  rise : l.Pairwise fun a b => lessL a.1 b.1 = true
  ids : ∀ p ∈ l, p.2 ∈ fs.map (·.1)
  once : (l.map (·.2)).Nodup

/-- A state but for this: that each file is named. -/
structure Nearly (s : St) : Prop where
  cap0 : 0 ≤ s.cap
  cap1 : s.cap ≤ 16777216
  next0 : 1 ≤ s.next
  next1 : s.next ≤ 2147483647
  few : s.files.length ≤ 256
  rise : s.files.Pairwise fun a b => a.1 < b.1
  ids : ∀ f ∈ s.files, 1 ≤ f.1 ∧ f.1 < s.next
  sync : ∀ f ∈ s.files, 0 ≤ f.2.2 ∧ f.2.2 ≤ (f.2.1.length : Int)
  used : usedOf s.files ≤ s.cap
  names : NamesGood s.files s.names
  safe : NamesGood s.files s.safe

structure Good (s : St) : Prop extends Nearly s where
  all : ∀ f ∈ s.files, f.1 ∈ s.names.map (·.2) ∨ f.1 ∈ s.safe.map (·.2)

theorem files_nodup {fs : List (Int × List Int × Int)} (h : fs.Pairwise fun a b => a.1 < b.1) : (fs.map (·.1)).Nodup := by
  unfold List.Nodup
  rw [List.pairwise_map]
  exact h.imp fun hab e => by omega

theorem riseF_pairwise {fs : List (Int × List Int × Int)} : RiseF fs ↔ fs.Pairwise fun a b => a.1 < b.1 := by
  rw [List.pairwise_iff_getElem]
  unfold RiseF
  constructor
  · intro h i j hi hj hij
    have := h i j hij hj
    simpa [List.getD, hi, hj] using this
  · intro h a b hab hb
    have := h a b (by omega) hb hab
    simpa [List.getD, hb, (show a < fs.length by omega)] using this

theorem riseN_pairwise {l : List (List Int × Int)} : RiseN l ↔ l.Pairwise fun a b => lessL a.1 b.1 = true := by
  rw [List.pairwise_iff_getElem]
  unfold RiseN
  constructor
  · intro h i j hi hj hij
    have := h i j hij hj
    simpa [List.getD, hi, hj] using this
  · intro h a b hab hb
    have := h a b (by omega) hb hab
    simpa [List.getD, hb, (show a < l.length by omega)] using this

theorem takeWhile_all {A : Type} {p : A → Bool} {l r : List A} (h : ∀ x ∈ l, p x = true) : (l ++ r).takeWhile p = l ++ r.takeWhile p := by
  induction l with
  | nil => rfl
  | cons x l ih => simp [h x (by simp), ih (fun y hy => h y (by simp [hy]))]

theorem thereF_of_mem {fs : List (Int × List Int × Int)} {id : Int} (h : fs.Pairwise fun a b => a.1 < b.1) (hm : id ∈ fs.map (·.1)) : thereF fs id = true := by
  obtain ⟨f, hf, rfl⟩ := List.mem_map.1 hm
  obtain ⟨l, r, rfl⟩ := List.append_of_mem hf
  have hl : ∀ x ∈ l, decide (x.1 < f.1) = true := by
    intro x hx
    rw [List.pairwise_append] at h
    simpa using h.2.2 x hx f (by simp)
  have hr : rankF (l ++ f :: r) f.1 = l.length := by
    unfold rankF rankOf
    rw [takeWhile_all hl]
    simp
  unfold thereF
  rw [hr]
  simp [List.getD]

theorem check_good {s : St} (h : checkP s = true) : Good s := by
  obtain ⟨h1, h2, h3, h4, h5⟩ := check_parts h
  have hso := check_sound h
  have hrise := riseF_pairwise.1 hso.1.2.2.2.2
  unfold boundsOf at h1
  simp only [Bool.and_eq_true, decide_eq_true_eq] at h1
  have hfile : ∀ f ∈ s.files, (1 ≤ f.1 ∧ f.1 < s.next) ∧ 0 ≤ f.2.2 ∧ f.2.2 ≤ (f.2.1.length : Int) := by
    intro f hf
    obtain ⟨i, hi, rfl⟩ := List.getElem_of_mem hf
    have hok := filesMay_ok h2 i hi
    unfold okFile at hok
    simp only [Bool.and_eq_true, decide_eq_true_eq] at hok
    have e : s.files.getD i (0, [], 0) = s.files[i] := by simp [List.getD, hi]
    rw [e] at hok
    have hp : 0 ≤ prevId s.files i := by
      clear hok e
      induction i with
      | zero => simp [prevId]
      | succ i ih =>
        have hok := filesMay_ok h2 i (by omega)
        unfold okFile at hok
        simp only [Bool.and_eq_true, decide_eq_true_eq] at hok
        have := ih (by omega) (List.getElem_mem _)
        unfold prevId
        rw [if_neg (by omega)]
        simp only [Nat.add_sub_cancel]
        omega
    exact ⟨⟨by omega, hok.1.1.2⟩, hok.1.2, hok.2⟩
  have hused : usedOf s.files ≤ s.cap := by
    unfold filesMayOf at h2
    simp only [Bool.and_eq_true, decide_eq_true_eq] at h2
    exact h2.2
  have hnames : ∀ l, namesMayOf s.files l = true → NamesGood s.files l := by
    intro l hl
    refine ⟨?_, riseN_pairwise.1 (names_rise hl), fun p hp => thereF_mem (names_there hl p hp), (ids_nodup l).1 (names_ok hl).2⟩
    intro p hp
    obtain ⟨k, hk, rfl⟩ := List.getElem_of_mem hp
    have := (names_ok hl).1 k hk
    unfold okNameP nameAt at this
    simp only [Bool.and_eq_true] at this
    have e : l.getD k ([], 0) = l[k] := by simp [List.getD, hk]
    rw [e] at this
    exact this.1.1
  refine ⟨⟨h1.1.1.1.1, h1.1.1.1.2, h1.1.1.2, h1.1.2, h1.2, hrise, fun f hf => (hfile f hf).1, fun f hf => (hfile f hf).2, hused, hnames _ h3, hnames _ h4⟩, ?_⟩
  intro f hf
  unfold allNamedOf at h5
  simp only [decide_eq_true_eq] at h5
  have hin : f.1 ∈ idsOf (s.names ++ s.safe) := by
    apply Classical.byContradiction
    intro hno
    have hsub : ∀ x ∈ idsOf (s.names ++ s.safe), x ∈ (s.files.map (·.1)).erase f.1 := by
      intro x hx
      have hne : x ≠ f.1 := fun e => hno (e ▸ hx)
      rw [List.mem_erase_of_ne hne]
      obtain ⟨p, hp, rfl⟩ := (mem_idsOf _ x).1 hx
      rcases List.mem_append.1 hp with hp | hp
      · exact (hnames _ h3).ids p hp
      · exact (hnames _ h4).ids p hp
    have hle := nodup_le _ _ (idsOf_nodup _) hsub
    have hmem : f.1 ∈ s.files.map (·.1) := List.mem_map.2 ⟨f, hf, rfl⟩
    rw [List.length_erase_of_mem hmem, List.length_map] at hle
    have hpos : 0 < s.files.length := List.length_pos_of_mem hf
    omega
  obtain ⟨p, hp, e⟩ := (mem_idsOf _ _).1 hin
  rcases List.mem_append.1 hp with hp | hp
  · exact .inl (List.mem_map.2 ⟨p, hp, e⟩)
  · exact .inr (List.mem_map.2 ⟨p, hp, e⟩)

theorem good_names {fs : List (Int × List Int × Int)} {l : List (List Int × Int)} (hr : fs.Pairwise fun a b => a.1 < b.1) (h : NamesGood fs l) : namesMayOf fs l = true := by
  unfold namesMayOf
  simp only [Bool.and_eq_true, decide_eq_true_eq]
  refine ⟨?_, (ids_nodup l).2 h.once⟩
  rw [List.all_eq_true]
  intro i hi
  rw [List.mem_range] at hi
  unfold okNameP nameAt
  have e : l.getD i ([], 0) = l[i] := by simp [List.getD, hi]
  rw [e]
  simp only [Bool.and_eq_true, Bool.or_eq_true, decide_eq_true_eq]
  refine ⟨⟨h.may _ (List.getElem_mem _), ?_⟩, thereF_of_mem hr (h.ids _ (List.getElem_mem _))⟩
  rcases Nat.eq_zero_or_pos i with q | q
  · exact .inl q
  · refine .inr ?_
    have := riseN_pairwise.2 h.rise (i - 1) i (by omega) hi
    rw [e] at this
    exact this

theorem good_check {s : St} (h : Good s) : checkP s = true := by
  unfold checkP
  simp only [Bool.and_eq_true]
  refine ⟨⟨⟨⟨?_, ?_⟩, good_names h.rise h.names⟩, good_names h.rise h.safe⟩, ?_⟩
  · unfold boundsOf
    simp only [Bool.and_eq_true, decide_eq_true_eq]
    exact ⟨⟨⟨⟨h.cap0, h.cap1⟩, h.next0⟩, h.next1⟩, h.few⟩
  · unfold filesMayOf
    simp only [Bool.and_eq_true, decide_eq_true_eq]
    refine ⟨?_, h.used⟩
    rw [List.all_eq_true]
    intro i hi
    rw [List.mem_range] at hi
    unfold okFile
    have e : s.files.getD i (0, [], 0) = s.files[i] := by simp [List.getD, hi]
    rw [e]
    simp only [Bool.and_eq_true, decide_eq_true_eq]
    have hm := List.getElem_mem (l := s.files) hi
    refine ⟨⟨⟨?_, (h.ids _ hm).2⟩, (h.sync _ hm).1⟩, (h.sync _ hm).2⟩
    unfold prevId
    split
    · have := (h.ids _ hm).1
      omega
    · have := riseF_pairwise.2 h.rise (i - 1) i (by omega) hi
      rw [e] at this
      exact this
  · unfold allNamedOf
    simp only [decide_eq_true_eq]
    have hsub : ∀ x ∈ idsOf (s.names ++ s.safe), x ∈ s.files.map (·.1) := by
      intro x hx
      obtain ⟨p, hp, rfl⟩ := (mem_idsOf _ x).1 hx
      rcases List.mem_append.1 hp with hp | hp
      · exact h.names.ids p hp
      · exact h.safe.ids p hp
    have h1 := nodup_le _ _ (idsOf_nodup _) hsub
    have h2 := nodup_le (s.files.map (·.1)) (idsOf (s.names ++ s.safe)) (files_nodup h.rise) (by
      intro x hx
      obtain ⟨f, hf, rfl⟩ := List.mem_map.1 hx
      rw [mem_idsOf]
      rcases h.all f hf with q | q
      · obtain ⟨p, hp, e⟩ := List.mem_map.1 q
        exact ⟨p, List.mem_append.2 (.inl hp), e⟩
      · obtain ⟨p, hp, e⟩ := List.mem_map.1 q
        exact ⟨p, List.mem_append.2 (.inr hp), e⟩)
    rw [List.length_map] at h1 h2
    omega

theorem check_iff (s : St) : checkP s = true ↔ Good s := ⟨check_good, good_check⟩
end Go.Proofs.Ytoceddpjkodfkaa
