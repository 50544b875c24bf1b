/- The texts M2, M3, M4, W1, T1, T4, in this order. -/
import Derived.Test.YtnchjlimkgbfpaaGreatDoorE21
import Derived.Test.YtnchjlimkgbfpaaGreatDoorE22
import Derived.Deep.QuietTactic
import Derived.BigQuiet

namespace Go.Proofs.YtnchjlimkgbfpaaGreatDoor
open Go.RowKit
set_option linter.unusedVariables false
set_option maxRecDepth 20000
theorem fold_le : ∀ (m acc : List Int), (m.foldl addId acc).length ≤ acc.length + m.length
  | [], acc => by simp
  | x :: r, acc => by
    have h := fold_le r (addId acc x)
    have h2 : (addId acc x).length ≤ acc.length + 1 := by
      unfold addId
      split <;> simp
    simp only [List.foldl_cons, List.length_cons]
    omega
theorem fold_nodup : ∀ (m acc : List Int), acc.Nodup → (m.foldl addId acc).length = acc.length + m.length → (acc ++ m).Nodup
  | [], acc, h, _ => by simpa using h
  | x :: r, acc, h, e => by
    simp only [List.foldl_cons, List.length_cons] at e
    by_cases c : acc.contains x = true
    · have ha : addId acc x = acc := by unfold addId; rw [if_pos c]
      rw [ha] at e
      have := fold_le r acc
      omega
    · have ha : addId acc x = acc ++ [x] := by unfold addId; rw [if_neg c]
      have hn := addId_nodup h x
      rw [ha] at e hn
      have := fold_nodup r (acc ++ [x]) hn (by rw [e]; simp; omega)
      simpa using this
theorem fold_len : ∀ (m acc : List Int), (acc ++ m).Nodup → (m.foldl addId acc).length = acc.length + m.length
  | [], acc, _ => by simp
  | x :: r, acc, h => by
    have hx : ¬ acc.contains x = true := by
      intro q
      have q' : x ∈ acc := by simpa using q
      rw [List.nodup_append] at h
      exact h.2.2 x q' x (by simp) rfl
    have ha : addId acc x = acc ++ [x] := by unfold addId; rw [if_neg hx]
    simp only [List.foldl_cons, List.length_cons]
    rw [ha, fold_len r (acc ++ [x]) (by simpa using h)]
    simp
    omega
theorem ids_nodup (l : List (List Int × Int)) : (idsOf l).length = l.length ↔ (l.map (·.2)).Nodup := by
  unfold idsOf
  constructor
  · intro h
    have := fold_nodup (l.map (·.2)) [] (by simp) (by rw [h]; simp)
    simpa using this
  · intro h
    rw [fold_len (l.map (·.2)) [] (by simpa using h)]
    simp
structure NamesGood (fs : List (Int × List Int × Int)) (l : List (List Int × Int)) : Prop where
  may : ∀ p ∈ l, mayOf p.1 = true
  rise : l.Pairwise fun a b => lessL a.1 b.1 = true
  ids : ∀ p ∈ l, p.2 ∈ fs.map (·.1)
  once : (l.map (·.2)).Nodup
structure Nearly (s : St) : Prop where
  cap0 : 0 ≤ s.cap
  cap1 : s.cap ≤ 16777216
  next0 : 1 ≤ s.next
  next1 : s.next ≤ 2147483647
  few : s.files.length ≤ 256
  rise : s.files.Pairwise fun a b => a.1 < b.1
  ids : ∀ f ∈ s.files, 1 ≤ f.1 ∧ f.1 < s.next
  sync : ∀ f ∈ s.files, 0 ≤ f.2.2 ∧ f.2.2 ≤ (f.2.1.length : Int)
  used : usedOf s.files ≤ s.cap
  names : NamesGood s.files s.names
  safe : NamesGood s.files s.safe
structure Good (s : St) : Prop extends Nearly s where
  all : ∀ f ∈ s.files, f.1 ∈ s.names.map (·.2) ∨ f.1 ∈ s.safe.map (·.2)
theorem files_nodup {fs : List (Int × List Int × Int)} (h : fs.Pairwise fun a b => a.1 < b.1) : (fs.map (·.1)).Nodup := by
  unfold List.Nodup
  rw [List.pairwise_map]
  exact h.imp fun hab e => by omega
theorem riseF_pairwise {fs : List (Int × List Int × Int)} : RiseF fs ↔ fs.Pairwise fun a b => a.1 < b.1 := by
  rw [List.pairwise_iff_getElem]
  unfold RiseF
  constructor
  · intro h i j hi hj hij
    have := h i j hij hj
    simpa [List.getD, hi, hj] using this
  · intro h a b hab hb
    have := h a b (by omega) hb hab
    simpa [List.getD, hb, (show a < fs.length by omega)] using this
theorem riseN_pairwise {l : List (List Int × Int)} : RiseN l ↔ l.Pairwise fun a b => lessL a.1 b.1 = true := by
  rw [List.pairwise_iff_getElem]
  unfold RiseN
  constructor
  · intro h i j hi hj hij
    have := h i j hij hj
    simpa [List.getD, hi, hj] using this
  · intro h a b hab hb
    have := h a b (by omega) hb hab
    simpa [List.getD, hb, (show a < l.length by omega)] using this
theorem takeWhile_all {A : Type} {p : A → Bool} {l r : List A} (h : ∀ x ∈ l, p x = true) : (l ++ r).takeWhile p = l ++ r.takeWhile p := by
  induction l with
  | nil => rfl
  | cons x l ih => simp [h x (by simp), ih (fun y hy => h y (by simp [hy]))]
theorem thereF_of_mem {fs : List (Int × List Int × Int)} {id : Int} (h : fs.Pairwise fun a b => a.1 < b.1) (hm : id ∈ fs.map (·.1)) : thereF fs id = true := by
  obtain ⟨f, hf, rfl⟩ := List.mem_map.1 hm
  obtain ⟨l, r, rfl⟩ := List.append_of_mem hf
  have hl : ∀ x ∈ l, decide (x.1 < f.1) = true := by
    intro x hx
    rw [List.pairwise_append] at h
    simpa using h.2.2 x hx f (by simp)
  have hr : rankF (l ++ f :: r) f.1 = l.length := by
    unfold rankF rankOf
    rw [takeWhile_all hl]
    simp
  unfold thereF
  rw [hr]
  simp [List.getD]
theorem check_good {s : St} (h : checkP s = true) : Good s := by
  obtain ⟨h1, h2, h3, h4, h5⟩ := check_parts h
  have hso := check_sound h
  have hrise := riseF_pairwise.1 hso.1.2.2.2.2
  unfold boundsOf at h1
  simp only [Bool.and_eq_true, decide_eq_true_eq] at h1
  have hfile : ∀ f ∈ s.files, (1 ≤ f.1 ∧ f.1 < s.next) ∧ 0 ≤ f.2.2 ∧ f.2.2 ≤ (f.2.1.length : Int) := by
    intro f hf
    obtain ⟨i, hi, rfl⟩ := List.getElem_of_mem hf
    have hok := filesMay_ok h2 i hi
    unfold okFile at hok
    simp only [Bool.and_eq_true, decide_eq_true_eq] at hok
    have e : s.files.getD i (0, [], 0) = s.files[i] := by simp [List.getD, hi]
    rw [e] at hok
    have hp : 0 ≤ prevId s.files i := by
      clear hok e
      induction i with
      | zero => simp [prevId]
      | succ i ih =>
        have hok := filesMay_ok h2 i (by omega)
        unfold okFile at hok
        simp only [Bool.and_eq_true, decide_eq_true_eq] at hok
        have := ih (by omega) (List.getElem_mem _)
        unfold prevId
        rw [if_neg (by omega)]
        simp only [Nat.add_sub_cancel]
        omega
    exact ⟨⟨by omega, hok.1.1.2⟩, hok.1.2, hok.2⟩
  have hused : usedOf s.files ≤ s.cap := by
    unfold filesMayOf at h2
    simp only [Bool.and_eq_true, decide_eq_true_eq] at h2
    exact h2.2
  have hnames : ∀ l, namesMayOf s.files l = true → NamesGood s.files l := by
    intro l hl
    refine ⟨?_, riseN_pairwise.1 (names_rise hl), fun p hp => thereF_mem (names_there hl p hp), (ids_nodup l).1 (names_ok hl).2⟩
    intro p hp
    obtain ⟨k, hk, rfl⟩ := List.getElem_of_mem hp
    have := (names_ok hl).1 k hk
    unfold okNameP nameAt at this
    simp only [Bool.and_eq_true] at this
    have e : l.getD k ([], 0) = l[k] := by simp [List.getD, hk]
    rw [e] at this
    exact this.1.1
  refine ⟨⟨h1.1.1.1.1, h1.1.1.1.2, h1.1.1.2, h1.1.2, h1.2, hrise, fun f hf => (hfile f hf).1, fun f hf => (hfile f hf).2, hused, hnames _ h3, hnames _ h4⟩, ?_⟩
  intro f hf
  unfold allNamedOf at h5
  simp only [decide_eq_true_eq] at h5
  have hin : f.1 ∈ idsOf (s.names ++ s.safe) := by
    apply Classical.byContradiction
    intro hno
    have hsub : ∀ x ∈ idsOf (s.names ++ s.safe), x ∈ (s.files.map (·.1)).erase f.1 := by
      intro x hx
      have hne : x ≠ f.1 := fun e => hno (e ▸ hx)
      rw [List.mem_erase_of_ne hne]
      obtain ⟨p, hp, rfl⟩ := (mem_idsOf _ x).1 hx
      rcases List.mem_append.1 hp with hp | hp
      · exact (hnames _ h3).ids p hp
      · exact (hnames _ h4).ids p hp
    have hle := nodup_le _ _ (idsOf_nodup _) hsub
    have hmem : f.1 ∈ s.files.map (·.1) := List.mem_map.2 ⟨f, hf, rfl⟩
    rw [List.length_erase_of_mem hmem, List.length_map] at hle
    have hpos : 0 < s.files.length := List.length_pos_of_mem hf
    omega
  obtain ⟨p, hp, e⟩ := (mem_idsOf _ _).1 hin
  rcases List.mem_append.1 hp with hp | hp
  · exact .inl (List.mem_map.2 ⟨p, hp, e⟩)
  · exact .inr (List.mem_map.2 ⟨p, hp, e⟩)
theorem good_names {fs : List (Int × List Int × Int)} {l : List (List Int × Int)} (hr : fs.Pairwise fun a b => a.1 < b.1) (h : NamesGood fs l) : namesMayOf fs l = true := by
  unfold namesMayOf
  simp only [Bool.and_eq_true, decide_eq_true_eq]
  refine ⟨?_, (ids_nodup l).2 h.once⟩
  rw [List.all_eq_true]
  intro i hi
  rw [List.mem_range] at hi
  unfold okNameP nameAt
  have e : l.getD i ([], 0) = l[i] := by simp [List.getD, hi]
  rw [e]
  simp only [Bool.and_eq_true, Bool.or_eq_true, decide_eq_true_eq]
  refine ⟨⟨h.may _ (List.getElem_mem _), ?_⟩, thereF_of_mem hr (h.ids _ (List.getElem_mem _))⟩
  rcases Nat.eq_zero_or_pos i with q | q
  · exact .inl q
  · refine .inr ?_
    have := riseN_pairwise.2 h.rise (i - 1) i (by omega) hi
    rw [e] at this
    exact this
theorem good_check {s : St} (h : Good s) : checkP s = true := by
  unfold checkP
  simp only [Bool.and_eq_true]
  refine ⟨⟨⟨⟨?_, ?_⟩, good_names h.rise h.names⟩, good_names h.rise h.safe⟩, ?_⟩
  · unfold boundsOf
    simp only [Bool.and_eq_true, decide_eq_true_eq]
    exact ⟨⟨⟨⟨h.cap0, h.cap1⟩, h.next0⟩, h.next1⟩, h.few⟩
  · unfold filesMayOf
    simp only [Bool.and_eq_true, decide_eq_true_eq]
    refine ⟨?_, h.used⟩
    rw [List.all_eq_true]
    intro i hi
    rw [List.mem_range] at hi
    unfold okFile
    have e : s.files.getD i (0, [], 0) = s.files[i] := by simp [List.getD, hi]
    rw [e]
    simp only [Bool.and_eq_true, decide_eq_true_eq]
    have hm := List.getElem_mem (l := s.files) hi
    refine ⟨⟨⟨?_, (h.ids _ hm).2⟩, (h.sync _ hm).1⟩, (h.sync _ hm).2⟩
    unfold prevId
    split
    · have := (h.ids _ hm).1
      omega
    · have := riseF_pairwise.2 h.rise (i - 1) i (by omega) hi
      rw [e] at this
      exact this
  · unfold allNamedOf
    simp only [decide_eq_true_eq]
    have hsub : ∀ x ∈ idsOf (s.names ++ s.safe), x ∈ s.files.map (·.1) := by
      intro x hx
      obtain ⟨p, hp, rfl⟩ := (mem_idsOf _ x).1 hx
      rcases List.mem_append.1 hp with hp | hp
      · exact h.names.ids p hp
      · exact h.safe.ids p hp
    have h1 := nodup_le _ _ (idsOf_nodup _) hsub
    have h2 := nodup_le (s.files.map (·.1)) (idsOf (s.names ++ s.safe)) (files_nodup h.rise) (by
      intro x hx
      obtain ⟨f, hf, rfl⟩ := List.mem_map.1 hx
      rw [mem_idsOf]
      rcases h.all f hf with q | q
      · obtain ⟨p, hp, e⟩ := List.mem_map.1 q
        exact ⟨p, List.mem_append.2 (.inl hp), e⟩
      · obtain ⟨p, hp, e⟩ := List.mem_map.1 q
        exact ⟨p, List.mem_append.2 (.inr hp), e⟩)
    rw [List.length_map] at h1 h2
    omega
theorem check_iff (s : St) : checkP s = true ↔ Good s := ⟨check_good, good_check⟩
end Go.Proofs.YtnchjlimkgbfpaaGreatDoor

namespace Go.Proofs.YtnchjlimkgbfpaaGreatDoor
open Go.RowKit
set_option linter.unusedVariables false
set_option maxRecDepth 20000
theorem stands_iff (l : List (List Int × Int)) (x : Int) : standsOf l x = true ↔ x ∈ l.map (·.2) := by
  unfold standsOf
  rw [List.any_eq_true, List.mem_map]
  constructor
  · rintro ⟨p, hp, e⟩
    exact ⟨p, hp, by simpa using e⟩
  · rintro ⟨p, hp, e⟩
    exact ⟨p, hp, by simpa using e⟩
theorem used_cons (f : Int × List Int × Int) (l : List (Int × List Int × Int)) : usedOf (f :: l) = (f.2.1.length : Int) + usedOf l := by simp [usedOf]
theorem used_append (a b : List (Int × List Int × Int)) : usedOf (a ++ b) = usedOf a + usedOf b := by simp [usedOf]
theorem used_filter (p : Int × List Int × Int → Bool) : ∀ l : List (Int × List Int × Int), usedOf (l.filter p) ≤ usedOf l
  | [] => by simp [usedOf]
  | f :: r => by
    have h := used_filter p r
    rw [List.filter_cons]
    split
    · rw [used_cons, used_cons]; omega
    · rw [used_cons]; omega
theorem NamesGood.sub {fs : List (Int × List Int × Int)} {l k : List (List Int × Int)} (h : NamesGood fs l) (hs : k.Sublist l) : NamesGood fs k :=
  ⟨fun p hp => h.may p (hs.subset hp), h.rise.sublist hs, fun p hp => h.ids p (hs.subset hp), h.once.sublist (hs.map _)⟩
theorem NamesGood.over {fs fs' : List (Int × List Int × Int)} {l : List (List Int × Int)} (h : NamesGood fs l) (hs : ∀ p ∈ l, p.2 ∈ fs'.map (·.1)) : NamesGood fs' l := ⟨h.may, h.rise, hs, h.once⟩
theorem nearly_swept {s : St} (h : Nearly s) : Good (sweptOf s) := by
  have hn : ∀ l, NamesGood s.files l → (∀ p ∈ l, (standsOf s.names p.2 || standsOf s.safe p.2) = true) → NamesGood (sweptOf s).files l := by
    intro l hl hst
    refine hl.over fun p hp => ?_
    obtain ⟨f, hf, e⟩ := List.mem_map.1 (hl.ids p hp)
    refine List.mem_map.2 ⟨f, List.mem_filter.2 ⟨hf, ?_⟩, e⟩
    rw [e]
    exact hst p hp
  refine ⟨⟨h.cap0, h.cap1, h.next0, h.next1, Nat.le_trans (List.length_filter_le _ _) h.few, h.rise.filter _, fun f hf => h.ids f (List.mem_filter.1 hf).1, fun f hf => h.sync f (List.mem_filter.1 hf).1, Int.le_trans (used_filter _ _) h.used, ?_, ?_⟩, ?_⟩
  · refine hn _ h.names fun p hp => ?_
    have : standsOf s.names p.2 = true := (stands_iff _ _).2 (List.mem_map.2 ⟨p, hp, rfl⟩)
    rw [this]
    rfl
  · refine hn _ h.safe fun p hp => ?_
    have : standsOf s.safe p.2 = true := (stands_iff _ _).2 (List.mem_map.2 ⟨p, hp, rfl⟩)
    rw [this]
    simp
  · intro f hf
    have := (List.mem_filter.1 hf).2
    simp only [Bool.or_eq_true] at this
    rcases this with q | q
    · exact .inl ((stands_iff _ _).1 q)
    · exact .inr ((stands_iff _ _).1 q)
theorem nearly_names {s : St} (h : Nearly s) {l : List (List Int × Int)} (hl : NamesGood s.files l) : Nearly { s with names := l } :=
  ⟨h.cap0, h.cap1, h.next0, h.next1, h.few, h.rise, h.ids, h.sync, h.used, hl, h.safe⟩
theorem nearly_safe {s : St} (h : Nearly s) {l : List (List Int × Int)} (hl : NamesGood s.files l) : Nearly { s with safe := l } :=
  ⟨h.cap0, h.cap1, h.next0, h.next1, h.few, h.rise, h.ids, h.sync, h.used, h.names, hl⟩
theorem rise_ids {fs : List (Int × List Int × Int)} : (fs.Pairwise fun a b => a.1 < b.1) ↔ (fs.map (·.1)).Pairwise (· < ·) := by rw [List.pairwise_map]
theorem nearly_files {s : St} (h : Nearly s) {fs : List (Int × List Int × Int)} (hi : fs.map (·.1) = s.files.map (·.1)) (hs : ∀ f ∈ fs, 0 ≤ f.2.2 ∧ f.2.2 ≤ (f.2.1.length : Int)) (hu : usedOf fs ≤ s.cap) : Nearly { s with files := fs } := by
  have hl : fs.length = s.files.length := by
    have := congrArg List.length hi
    simpa using this
  refine ⟨h.cap0, h.cap1, h.next0, h.next1, by simp only; rw [hl]; exact h.few, ?_, ?_, hs, hu, ?_, ?_⟩
  · simp only
    rw [rise_ids, hi, ← rise_ids]
    exact h.rise
  · intro f hf
    have : f.1 ∈ s.files.map (·.1) := by rw [← hi]; exact List.mem_map.2 ⟨f, hf, rfl⟩
    obtain ⟨g, hg, e⟩ := List.mem_map.1 this
    have := h.ids g hg
    rw [e] at this
    exact this
  · refine h.names.over fun p hp => ?_
    simp only
    rw [hi]
    exact h.names.ids p hp
  · refine h.safe.over fun p hp => ?_
    simp only
    rw [hi]
    exact h.safe.ids p hp
theorem good_files {s : St} (h : Good s) {fs : List (Int × List Int × Int)} (hi : fs.map (·.1) = s.files.map (·.1)) (hs : ∀ f ∈ fs, 0 ≤ f.2.2 ∧ f.2.2 ≤ (f.2.1.length : Int)) (hu : usedOf fs ≤ s.cap) : Good { s with files := fs } := by
  refine ⟨nearly_files h.toNearly hi hs hu, fun f hf => ?_⟩
  have : f.1 ∈ s.files.map (·.1) := by rw [← hi]; exact List.mem_map.2 ⟨f, hf, rfl⟩
  obtain ⟨g, hg, e⟩ := List.mem_map.1 this
  have := h.all g hg
  rw [e] at this
  exact this
end Go.Proofs.YtnchjlimkgbfpaaGreatDoor

namespace Go.Proofs.YtnchjlimkgbfpaaGreatDoor
open Go.RowKit
set_option linter.unusedVariables false
set_option maxRecDepth 20000
theorem lessL_total : ∀ a b : List Int, lessL a b = true ∨ a = b ∨ lessL b a = true
  | [], [] => .inr (.inl rfl)
  | [], y :: b => .inl (by simp [lessL])
  | x :: a, [] => .inr (.inr (by simp [lessL]))
  | x :: a, y :: b => by
    rcases Int.lt_trichotomy x y with c | c | c
    · exact .inl (lessL_head x y c a b)
    · subst c
      rw [lessL_same, lessL_same]
      rcases lessL_total a b with q | q | q
      · exact .inl q
      · exact .inr (.inl (by rw [q]))
      · exact .inr (.inr q)
    · exact .inr (.inr (lessL_head y x c b a))
theorem drop_head {A : Type} {p : A → Bool} : ∀ {l : List A} {z : A} {r : List A}, l.dropWhile p = z :: r → p z = false
  | [], z, r, h => by simp at h
  | x :: l, z, r, h => by
    rw [List.dropWhile_cons] at h
    split at h
    · exact drop_head h
    · rename_i hx
      simp only [List.cons.injEq] at h
      rw [← h.1]
      simpa using hx
theorem rank_take {A : Type} (p : A → Bool) (l : List A) : l.take (rankOf p l) = l.takeWhile p := by
  have h : l.takeWhile p ++ l.dropWhile p = l := List.takeWhile_append_dropWhile
  unfold rankOf
  generalize l.takeWhile p = a at *
  generalize l.dropWhile p = b at *
  subst h
  simp
theorem rank_drop {A : Type} (p : A → Bool) (l : List A) : l.drop (rankOf p l) = l.dropWhile p := by
  have h : l.takeWhile p ++ l.dropWhile p = l := List.takeWhile_append_dropWhile
  unfold rankOf
  generalize l.takeWhile p = a at *
  generalize l.dropWhile p = b at *
  subst h
  simp
theorem mem_tw {A : Type} {p : A → Bool} : ∀ {l : List A} {x : A}, x ∈ l.takeWhile p → p x = true
  | [], x, h => by simp at h
  | y :: l, x, h => by
    rw [List.takeWhile_cons] at h
    split at h
    · rename_i hy
      rcases List.mem_cons.1 h with rfl | h
      · exact hy
      · exact mem_tw h
    · simp at h
theorem behind_greater {l : List (List Int × Int)} (h : l.Pairwise fun a b => lessL a.1 b.1 = true) {t : List Int} (hn : thereN l t = false) : ∀ y ∈ l.dropWhile (fun p => lessL p.1 t), lessL t y.1 = true := by
  cases hd : l.dropWhile (fun p => lessL p.1 t) with
  | nil => intro y hy; cases hy
  | cons z r =>
    have hz := drop_head hd
    have hsub : (z :: r).Pairwise fun a b => lessL a.1 b.1 = true := by
      rw [← hd]
      exact h.sublist (List.dropWhile_sublist _)
    have hdr : l.drop (rankN l t) = z :: r := by
      unfold rankN
      rw [rank_drop, hd]
    have hlt : rankN l t < l.length := by
      have := congrArg List.length hdr
      simp only [List.length_drop, List.length_cons] at this
      omega
    have hg : l.getD (rankN l t) ([], 0) = z := by
      rw [List.drop_eq_getElem_cons hlt] at hdr
      simp only [List.cons.injEq] at hdr
      simp [List.getD, hlt, hdr.1]
    have hne : ¬ z.1 = t := by
      intro e
      unfold thereN at hn
      rw [hg] at hn
      simp [hlt, e] at hn
    have hz2 : lessL t z.1 = true := by
      rcases lessL_total t z.1 with q | q | q
      · exact q
      · exact absurd q.symm hne
      · rw [hz] at q; cases q
    intro y hy
    rcases List.mem_cons.1 hy with rfl | hy
    · exact hz2
    · exact lessL_trans _ _ _ hz2 ((List.pairwise_cons.1 hsub).1 y hy)
theorem ins_rise {l : List (List Int × Int)} (h : l.Pairwise fun a b => lessL a.1 b.1 = true) {t : List Int} (id : Int) (hn : thereN l t = false) : (insN l (rankN l t) (t, id)).Pairwise fun a b => lessL a.1 b.1 = true := by
  have hb := behind_greater h hn
  unfold insN rankN
  rw [rank_take, rank_drop]
  have hl : l.takeWhile (fun p => lessL p.1 t) ++ l.dropWhile (fun p => lessL p.1 t) = l := List.takeWhile_append_dropWhile
  rw [← hl, List.pairwise_append] at h
  rw [List.pairwise_append]
  refine ⟨h.1, List.pairwise_cons.2 ⟨hb, h.2.1⟩, ?_⟩
  intro y hy z hz
  rcases List.mem_cons.1 hz with rfl | hz
  · exact mem_tw (p := fun p : List Int × Int => lessL p.1 t) hy
  · exact h.2.2 y hy z hz
theorem ins_perm (l : List (List Int × Int)) (i : Nat) (x : List Int × Int) : (insN l i x).Perm (x :: l) := by
  unfold insN
  have := List.perm_middle (a := x) (l₁ := l.take i) (l₂ := l.drop i)
  rwa [List.take_append_drop] at this
theorem ins_good {fs : List (Int × List Int × Int)} {l : List (List Int × Int)} (h : NamesGood fs l) {t : List Int} {id : Int} (hm : mayOf t = true) (hn : thereN l t = false) (hid : id ∈ fs.map (·.1)) (hno : id ∉ l.map (·.2)) : NamesGood fs (insN l (rankN l t) (t, id)) := by
  refine ⟨?_, ins_rise h.rise id hn, ?_, ?_⟩
  · intro p hp
    rcases insN_mem hp with rfl | hp
    · exact hm
    · exact h.may p hp
  · intro p hp
    rcases insN_mem hp with rfl | hp
    · exact hid
    · exact h.ids p hp
  · rw [((ins_perm l _ _).map (·.2)).nodup_iff]
    exact List.nodup_cons.2 ⟨hno, h.once⟩
theorem create_good {s : St} (h : Good s) (name : List Int) : Good (createP s name).1 := by
  unfold createP
  by_cases c1 : mayOf name = true
  · rw [if_pos c1]
    by_cases c2 : thereN s.names name = true
    · rw [if_pos c2]; exact h
    · rw [if_neg c2]
      by_cases c3 : s.files.length = 256 ∨ s.next = 2147483647
      · rw [if_pos c3]; exact h
      · rw [if_neg c3]
        have hn : thereN s.names name = false := by simpa using c2
        have few := h.few
        have n0 := h.next0
        have n1 := h.next1
        have idx : (s.files ++ [(s.next, ([] : List Int), (0 : Int))]).map (fun f => f.1) = s.files.map (fun f => f.1) ++ [s.next] := by simp
        have hno : ∀ l, NamesGood s.files l → s.next ∉ l.map (·.2) := by
          intro l hl q
          obtain ⟨p, hp, e⟩ := List.mem_map.1 q
          obtain ⟨f, hf, e2⟩ := List.mem_map.1 (hl.ids p hp)
          have := (h.ids f hf).2
          omega
        have over : ∀ l, NamesGood s.files l → NamesGood (s.files ++ [(s.next, [], 0)]) l := fun l hl => hl.over fun p hp => by
          rw [idx]
          exact List.mem_append.2 (.inl (hl.ids p hp))
        refine ⟨⟨h.cap0, h.cap1, by simp only; omega, by simp only; omega, by simp; omega, ?_, ?_, ?_, ?_, ?_, over _ h.safe⟩, ?_⟩
        · simp only
          rw [List.pairwise_append]
          refine ⟨h.rise, by simp, ?_⟩
          intro f hf g hg
          simp at hg
          subst hg
          exact (h.ids f hf).2
        · intro f hf
          simp only
          rcases List.mem_append.1 hf with hf | hf
          · have := h.ids f hf
            omega
          · simp at hf
            subst hf
            simp only
            omega
        · intro f hf
          rcases List.mem_append.1 hf with hf | hf
          · exact h.sync f hf
          · simp at hf
            subst hf
            simp
        · simp only
          rw [used_append]
          have := h.used
          simp [usedOf] at this ⊢
          exact this
        · exact ins_good (over _ h.names) c1 hn (by rw [idx]; simp) (hno _ h.names)
        · intro f hf
          simp only
          have hp := (ins_perm s.names (rankN s.names name) (name, s.next)).map (·.2)
          rcases List.mem_append.1 hf with hf | hf
          · rcases h.all f hf with q | q
            · exact .inl (hp.mem_iff.2 (List.mem_cons.2 (.inr q)))
            · exact .inr q
          · simp at hf
            subst hf
            exact .inl (hp.mem_iff.2 (List.mem_cons.2 (.inl rfl)))
  · rw [if_neg c1]; exact h
theorem used_set : ∀ (l : List (Int × List Int × Int)) (i : Nat) (hi : i < l.length) (f : Int × List Int × Int), usedOf (l.set i f) = usedOf l - (l[i].2.1.length : Int) + (f.2.1.length : Int)
  | x :: l, 0, _, f => by
    rw [List.set_cons_zero, used_cons, used_cons]
    simp
    omega
  | x :: l, i + 1, hi, f => by
    rw [List.set_cons_succ, used_cons, used_cons, used_set l i (by simpa using hi) f]
    simp
    omega
  | [], i, hi, f => by simp at hi
theorem has_lt {s : St} {name : List Int} (h : hasF s name = true) : idxF s name < s.files.length := by
  unfold hasF thereF at h
  simp only [Bool.and_eq_true, decide_eq_true_eq] at h
  exact h.2.1
theorem good_set {s : St} (h : Good s) (i : Nat) (hi : i < s.files.length) (f : Int × List Int × Int) (h1 : f.1 = (fileD s i).1) (h2 : 0 ≤ f.2.2 ∧ f.2.2 ≤ (f.2.1.length : Int)) (h3 : usedOf s.files - ((fileD s i).2.1.length : Int) + (f.2.1.length : Int) ≤ s.cap) : Good { s with files := s.files.set i f } := by
  have e : fileD s i = s.files[i] := by simp [fileD, List.getD, hi]
  rw [e] at h1 h3
  refine good_files h ?_ ?_ ?_
  · rw [List.map_set, h1]
    apply List.ext_getElem
    · simp
    · intro j q1 q2
      rw [List.getElem_set]
      split
      · rename_i q
        subst q
        simp
      · rfl
  · intro g hg
    rcases List.mem_or_eq_of_mem_set hg with hg | rfl
    · exact h.sync g hg
    · exact h2
  · rw [used_set s.files i hi f]
    exact h3
theorem extend_good {s : St} (h : Good s) (name data : List Int) : Good (extendP s name data).1 := by
  unfold extendP
  by_cases c1 : hasF s name = true
  · rw [if_pos c1]
    by_cases c2 : s.cap - usedOf s.files < (data.length : Int)
    · rw [if_pos c2]; exact h
    · rw [if_neg c2]
      have hi := has_lt c1
      have hs := h.sync (fileD s (idxF s name)) (by simp [fileD, List.getD, hi])
      refine good_set h _ hi _ rfl ?_ ?_
      · simp only [List.length_append]
        omega
      · simp only [List.length_append]
        omega
  · rw [if_neg c1]; exact h
theorem sync_good {s : St} (h : Good s) (name : List Int) : Good (syncP s name).1 := by
  unfold syncP
  by_cases c1 : hasF s name = true
  · rw [if_pos c1]
    have hi := has_lt c1
    refine good_set h _ hi _ rfl ?_ ?_
    · simp only
      omega
    · simp only
      have := h.used
      omega
  · rw [if_neg c1]; exact h
theorem remove_good {s : St} (h : Good s) (name : List Int) : Good (removeP s name).1 := by
  unfold removeP
  by_cases c1 : thereN s.names name = true
  · rw [if_pos c1]
    exact nearly_swept (nearly_names h.toNearly (h.names.sub (List.eraseIdx_sublist _ _)))
  · rw [if_neg c1]; exact h
theorem syncNames_good {s : St} (h : Good s) : Good (syncNamesP s) := nearly_swept (nearly_safe h.toNearly h.names)
theorem erase_perm {A : Type} : ∀ (l : List A) (i : Nat) (hi : i < l.length), l.Perm (l[i] :: l.eraseIdx i)
  | x :: l, 0, _ => by simp
  | x :: l, i + 1, hi => by
    have h := erase_perm l i (by simpa using hi)
    simp only [List.getElem_cons_succ, List.eraseIdx_cons_succ]
    exact (h.cons x).trans (List.Perm.swap _ _ _)
  | [], i, hi => by simp at hi
theorem set_perm {A : Type} : ∀ (l : List A) (i : Nat) (hi : i < l.length) (a : A), (l.set i a).Perm (a :: l.eraseIdx i)
  | x :: l, 0, _, a => by simp
  | x :: l, i + 1, hi, a => by
    have h := set_perm l i (by simpa using hi) a
    simp only [List.set_cons_succ, List.eraseIdx_cons_succ]
    exact (h.cons x).trans (List.Perm.swap _ _ _)
  | [], i, hi, a => by simp at hi
theorem erase_not {l : List (List Int × Int)} (h : (l.map (·.2)).Nodup) {i : Nat} (hi : i < l.length) : (l.getD i ([], 0)).2 ∉ (l.eraseIdx i).map (·.2) := by
  have e : l.getD i ([], 0) = l[i] := by simp [List.getD, hi]
  rw [e]
  have hp : l.Perm (l[i] :: l.eraseIdx i) := erase_perm l i hi
  have := (hp.map (·.2)).nodup_iff.1 h
  exact (List.nodup_cons.1 this).1
theorem renamed_good {fs : List (Int × List Int × Int)} {l : List (List Int × Int)} (h : NamesGood fs l) {t : List Int} {id : Int} (hm : mayOf t = true) (hid : id ∈ fs.map (·.1)) (hno : id ∉ l.map (·.2)) : NamesGood fs (renamed l t id) := by
  unfold renamed
  by_cases c : thereN l t = true
  · rw [if_pos c]
    have hi := lt_of_thereN c
    have e : l.getD (rankN l t) ([], 0) = l[rankN l t] := by simp [List.getD, hi]
    rw [e]
    refine ⟨?_, ?_, ?_, ?_⟩
    · intro p hp
      rcases List.mem_or_eq_of_mem_set hp with hp | rfl
      · exact h.may p hp
      · show mayOf l[rankN l t].1 = true
        exact h.may _ (List.getElem_mem hi)
    · have key : (l.set (rankN l t) (l[rankN l t].1, id)).map (·.1) = l.map (·.1) := by
        rw [List.map_set]
        apply List.ext_getElem
        · simp
        · intro j q1 q2
          rw [List.getElem_set]
          split
          · rename_i q
            subst q
            simp
          · rfl
      have h1 := h.rise
      rw [← List.pairwise_map (f := fun p : List Int × Int => p.1) (R := fun a b => lessL a b = true)] at h1 ⊢
      rw [key]
      exact h1
    · intro p hp
      rcases List.mem_or_eq_of_mem_set hp with hp | rfl
      · exact h.ids p hp
      · exact hid
    · rw [List.map_set]
      have hp := set_perm (l.map (·.2)) (rankN l t) (by simpa using hi) id
      rw [hp.nodup_iff]
      refine List.nodup_cons.2 ⟨fun q => hno ((List.eraseIdx_sublist _ _).subset q), h.once.sublist (List.eraseIdx_sublist _ _)⟩
  · rw [if_neg c]
    exact ins_good h hm (by simpa using c) hid hno
theorem rename_good {s : St} (h : Good s) (name tn : List Int) : Good (renameP s name tn).1 := by
  unfold renameP
  by_cases c1 : thereN s.names name = true
  · rw [if_pos c1]
    by_cases c2 : mayOf tn = true
    · rw [if_pos c2]
      by_cases c3 : tn = name
      · rw [if_pos c3]; exact h
      · rw [if_neg c3]
        have hi := lt_of_thereN c1
        have hid : idN s name ∈ s.files.map (·.1) := by
          unfold idN
          refine h.names.ids _ ?_
          simp [List.getD, hi]
        exact nearly_swept (nearly_names h.toNearly (renamed_good (h.names.sub (List.eraseIdx_sublist _ _)) c2 hid (erase_not h.names.once hi)))
    · rw [if_neg c2]; exact h
  · rw [if_neg c1]; exact h
theorem act_good {s : St} (h : Good s) (a : Ac) : Good (actP s a).1 := by
  unfold actP
  split
  · exact create_good h _
  · split
    · exact extend_good h _ _
    · split
      · exact sync_good h _
      · split
        · exact rename_good h _ _
        · split
          · exact remove_good h _
          · split
            · exact syncNames_good h
            · exact h
end Go.Proofs.YtnchjlimkgbfpaaGreatDoor

namespace Go.Proofs.YtnchjlimkgbfpaaGreatDoor
open Go.RowKit
set_option linter.unusedVariables false
set_option maxRecDepth 20000
theorem box_cells {w : World} {B : Nat} {a b c d e : Value} {t : TypeId} (h : w.heap[B]? = some (.cells #[a, b, c, d, e] t)) :
    w.cell? ⟨B, 0, none⟩ = some a ∧ w.cell? ⟨B, 1, none⟩ = some b ∧ w.cell? ⟨B, 2, none⟩ = some c ∧ w.cell? ⟨B, 3, none⟩ = some d ∧ w.cell? ⟨B, 4, none⟩ = some e :=
  ⟨blk_cell h 0 _ rfl, blk_cell h 1 _ rfl, blk_cell h 2 _ rfl, blk_cell h 3 _ rfl, blk_cell h 4 _ rfl⟩
theorem StW.form {w : World} {v : Value} {s : St} (h : StW w v s) : ∃ af cf an cn as' cs', v = .agg #[.int .i64 s.cap, .slice af s.files.length cf, .slice an s.names.length cn, .slice as' s.safe.length cs', .int .i64 s.next] := by
  obtain ⟨vf, vn, vs, rfl, hf, hn, hs, _, _⟩ := h
  obtain ⟨af, cf, rfl, _, _⟩ := hf.len
  obtain ⟨an, cn, rfl, _, _⟩ := hn.len
  obtain ⟨as', cs', rfl, _, _⟩ := hs.len
  exact ⟨_, _, _, _, _, _, rfl⟩
end Go.Proofs.YtnchjlimkgbfpaaGreatDoor

namespace Go.Proofs.YtnchjlimkgbfpaaGreatDoor
open Go.RowKit
set_option linter.unusedVariables false
set_option maxRecDepth 20000
set_option linter.unusedSimpArgs false
set_option maxHeartbeats 400000 in
theorem copyB_any (l : List Int) (v : Value) (w : World) (hv : Octs w v l) (hl : l.length ≤ 140737488355328) :
    Calls Tryz.prog 69 #[v] w fun e w' => ∃ v', e = .returned v' ∧ OwnB w' w.heap.size v' l ∧ Below w.heap.size w w' := by
  have HV : Hid (Octs w v l) := hv
  clear hv
  go_enter Tryz.func69, Tryz.ntmps69
  go_wp2_with (at_builtin; refine wpList_append_octs _ rfl _ _ rfl w.heap.size _ [] rfl (World.ownsRow_nil _ _ _ _) _ l rfl HV.out ?c1 (Nat.le_refl _) ?_)
  case c1 => simpa using hl
  intro v' w' hown hg
  go_wp2
  go_ret
  refine ⟨_, rfl, hown, ?_⟩
  exact (Below.refl _ _).grown hg (Nat.le_refl _) (by simp [Value.ownBlock])
set_option maxHeartbeats 2000000 in
set_option maxRecDepth 20000 in
theorem names_any (l : List (List Int × Int)) (v : Value) (w : World) (hv : NamesW w v l) (hl : l.length * 24 ≤ 140737488351232) :
    Calls Tryz.prog 30 #[v] w fun e w' => ∃ v', e = .returned v' ∧ OwnN w' w.heap.size 146 v' l ∧ Below w.heap.size w w' := by
  have HN : Hid (NamesW w v l) := hv
  obtain ⟨an, cn, en, _, _⟩ := hv.len
  subst en
  clear hv
  go_enter Tryz.func30, Tryz.ntmps30
  go_wp2_with fail
  go_loopw [3, 4] (fun vb i wr => ∃ k : Nat, k ≤ l.length ∧ i = .int .i64 k ∧ Hid (OwnR wr w.heap.size 146 2 vb ((l.take k).map nrow)) ∧ Hid (Below w.heap.size w wr)) (fun _ i _ => l.length - (intOf i).toNat)
  case atStart => exact ⟨0, Nat.zero_le _, rfl, OwnR.nil _ _ _ _, Below.refl _ _⟩
  case round =>
    obtain ⟨k, hk, rfl, HO, up⟩ := hrel
    by_cases hlt : k < l.length
    · have hlt' : (k : Int) < (l.length : Int) := by omega
      obtain ⟨b, off, cap', e, _, _, c0, c1, ho, hln, hi'⟩ := (HN.out.up up.out).at k hlt
      simp at e
      obtain ⟨rfl, rfl⟩ := e
      have HT : Hid (l.take (k + 1) = l.take k ++ [l.getD k ([], 0)]) := take_snoc l k _ hlt
      have HKl : Hid (((l.take k).map nrow).length = k) := by simp [Hid]; omega
      generalize l.getD k ([], 0) = y at *
      obtain ⟨ys, yi⟩ := y
      simp only at c0 c1 HT
      have hsz2 := up.out.size
      obtain ⟨vl, cl, ev5, _, _⟩ := (Rws.own HO.out).len
      subst ev5
      rw [HKl.out] at HO ⊢
      go_wp2_with (at_builtin; refine wpList_append_row wr rfl (.tmp 11) (.tmp 16) 33 146 (.agg #[.string ⟨#[]⟩, .int .i64 0]) 2 24 rfl Tryz.underlying33 Tryz.info146 rfl (by decide) w.heap.size (.slice vl k cl) _ rfl HO.out (nrow (ys, yi)) _ wr.heap.size rfl rfl rfl rfl ?n2 ?n3 ?n4 hsz2 ?_)
      try case n2 => (intro u hu; simp [nrow] at hu; rcases hu with rfl | rfl <;> rfl)
      try case n3 => ((try rw [HKl.out]); omega)
      try case n4 => ((try rw [HKl.out]); unfold maxLen; omega)
      intro v6 w6 o6 b6
      have HO6 : Hid (OwnR w6 w.heap.size 146 2 v6 ((l.take (k + 1)).map nrow)) := by
        unfold Hid
        rw [HT.out, List.map_append]
        simpa using o6
      have HU6 : Hid (Below w.heap.size w w6) := up.out.trans b6
      clear o6 b6
      go_wp2_with fail
      exact ⟨⟨k + 1, by omega, by go_num, HO6, HU6⟩, by simp [intOf]; omega⟩
    · have hlt' : ¬ (k : Int) < (l.length : Int) := by omega
      obtain rfl : k = l.length := by omega
      rw [List.take_length] at HO
      have HO6 := HO
      go_wp2_with fail
      go_ret
      exact ⟨_, rfl, ⟨HN.out.1, HO6.out⟩, up.out⟩
end Go.Proofs.YtnchjlimkgbfpaaGreatDoor

namespace Go.Proofs.YtnchjlimkgbfpaaGreatDoor
open Go.RowKit
set_option linter.unusedVariables false
set_option maxRecDepth 20000
set_option linter.unusedSimpArgs false
def TextsW (w : World) (v : Value) (l : List (List Int)) : Prop := Rws 1 w v (l.map srow)
theorem TextsW.up {w w' : World} {v : Value} {l : List (List Int)} (h : TextsW w v l) (hb : Below w.heap.size w w') : TextsW w' v l := Rws.up h hb
theorem TextsW.len {w : World} {v : Value} {l : List (List Int)} (h : TextsW w v l) : ∃ a cap, v = .slice a l.length cap ∧ l.length ≤ cap ∧ cap ≤ maxLen := by
  obtain ⟨a, cap, e, h1, h2⟩ := Rws.len h
  rw [List.length_map] at e h1
  exact ⟨a, cap, e, h1, h2⟩
theorem TextsW.at {w : World} {v : Value} {l : List (List Int)} (h : TextsW w v l) (k : Nat) (hk : k < l.length) : ∃ b off cap, v = .slice (some ⟨b, off, none⟩) l.length cap ∧ w.cell? ⟨b, off + k, none⟩ = some (.string (strOfNums (l.getD k []))) := by
  obtain ⟨b, off, cap, e, _, _, hc⟩ := Rws.at h k (by rw [List.length_map]; exact hk)
  rw [List.length_map] at e
  have hr : (l.map srow).getD k [] = [.string (strOfNums (l.getD k []))] := by simp [List.getD, hk, srow]
  rw [hr] at hc
  have c0 := hc 0 _ rfl
  rw [Nat.mul_one, Nat.add_zero] at c0
  exact ⟨b, off, cap, e, c0⟩
set_option maxHeartbeats 2000000 in
theorem sameTexts_self (l : List (List Int)) (v u : Value) (w : World) (hv : TextsW w v l) (hu : TextsW w u l) :
    Calls Tryz.prog 23 #[v, u] w fun e w' => e = .returned (.bool true) ∧ Below w.heap.size w w' := by
  have HV : Hid (TextsW w v l ∧ TextsW w u l) := ⟨hv, hu⟩
  obtain ⟨a1, c1, e1, _, m1⟩ := hv.len
  obtain ⟨a2, c2, e2, _, m2⟩ := hu.len
  subst e1
  subst e2
  have hl63 : l.length ≤ 9223372036854775807 := by unfold maxLen at m1; omega
  clear hv hu
  go_enter Tryz.func23, Tryz.ntmps23
  go_wp2_with fail
  go_loopw [5] (fun i wr => ∃ k : Nat, k ≤ l.length ∧ i = .int .i64 k ∧ Hid (Below w.heap.size w wr)) (fun i _ => l.length - (intOf i).toNat)
  case atStart => exact ⟨0, Nat.zero_le _, rfl, Below.refl _ _⟩
  case round =>
    obtain ⟨k, hk, rfl, up⟩ := hrel
    by_cases hlt : k < l.length
    · have hlt' : (k : Int) < (l.length : Int) := by omega
      obtain ⟨b, off, cap, e, z0⟩ := (HV.out.1.up up.out).at k hlt
      obtain ⟨b', off', cap', e', z1⟩ := (HV.out.2.up up.out).at k hlt
      simp at e e'
      obtain ⟨rfl, rfl⟩ := e
      obtain ⟨rfl, rfl⟩ := e'
      have z0' := fun (p : UpW wr) => cell_up z0 p
      have z1' := fun (p : UpW wr) => cell_up z1 p
      go_wp2_with fail
      refine wp_region_up (by kernel_rfl) (by kernel_rfl) ?_
      repeat (quiet_step (fail))
      refine wpQuiet_nil ?_
      intro _ hw'
      obtain ⟨p, hw''⟩ := hw'
      subst hw''
      have HU : Hid (Below w.heap.size w p.val) := up_trans up.out p.up
      go_wp2_with fail
      exact ⟨⟨k + 1, by omega, by go_num, HU⟩, by simp [intOf]; omega⟩
    · have hlt' : ¬ (k : Int) < (l.length : Int) := by omega
      go_wp2_with fail
      go_ret
      exact ⟨rfl, up.out⟩
end Go.Proofs.YtnchjlimkgbfpaaGreatDoor
