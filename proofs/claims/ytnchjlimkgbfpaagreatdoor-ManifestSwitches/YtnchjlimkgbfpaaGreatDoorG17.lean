/- The texts M3, M4, in this order. -/
import Derived.Test.YtnchjlimkgbfpaaGreatDoorG15
import Derived.Test.YtnchjlimkgbfpaaGreatDoorG16

/- Every act, and every crash, leaves a state that may be. -/
namespace Go.Proofs.YtnchjlimkgbfpaaGreatDoor
open Go.RowKit
set_option linter.unusedVariables false
set_option maxRecDepth 20000

theorem stands_iff (l : List (List Int × Int)) (x : Int) : standsOf l x = true ↔ x ∈ l.map (·.2) := by
  unfold standsOf
  rw [List.any_eq_true, List.mem_map]
  constructor
  · rintro ⟨p, hp, e⟩
    exact ⟨p, hp, by simpa using e⟩
  · rintro ⟨p, hp, e⟩
    exact ⟨p, hp, by simpa using e⟩

theorem used_cons (f : Int × List Int × Int) (l : List (Int × List Int × Int)) : usedOf (f :: l) = (f.2.1.length : Int) + usedOf l := by simp [usedOf]
theorem used_append (a b : List (Int × List Int × Int)) : usedOf (a ++ b) = usedOf a + usedOf b := by simp [usedOf]

theorem used_filter (p : Int × List Int × Int → Bool) : ∀ l : List (Int × List Int × Int), usedOf (l.filter p) ≤ usedOf l
  | [] => by simp [usedOf]
  | f :: r => by
    have h := used_filter p r
    rw [List.filter_cons]
    split
    · rw [used_cons, used_cons]; omega
    · rw [used_cons]; omega

theorem used_less : ∀ (a b : List (Int × List Int × Int)), a.length = b.length → (∀ i (h1 : i < a.length) (h2 : i < b.length), a[i].2.1.length ≤ b[i].2.1.length) → usedOf a ≤ usedOf b
  | [], [], _, _ => Int.le_refl _
  | x :: a, y :: b, hl, h => by
    have h0 := h 0 (by simp) (by simp)
    have := used_less a b (by simpa using hl) (fun i h1 h2 => by
      have := h (i + 1) (by simp; omega) (by simp; omega)
      simpa using this)
    rw [used_cons, used_cons]
    simp at h0
    omega
  | [], _ :: _, hl, _ => by simp at hl
  | _ :: _, [], hl, _ => by simp at hl

theorem NamesGood.sub {fs : List (Int × List Int × Int)} {l k : List (List Int × Int)} (h : NamesGood fs l) (hs : k.Sublist l) : NamesGood fs k :=
  ⟨fun p hp => h.may p (hs.subset hp), h.rise.sublist hs, fun p hp => h.ids p (hs.subset hp), h.once.sublist (hs.map _)⟩

theorem NamesGood.over {fs fs' : List (Int × List Int × Int)} {l : List (List Int × Int)} (h : NamesGood fs l) (hs : ∀ p ∈ l, p.2 ∈ fs'.map (·.1)) : NamesGood fs' l := ⟨h.may, h.rise, hs, h.once⟩

theorem nearly_swept {s : St} (h : Nearly s) : Good (sweptOf s) := by
  have hn : ∀ l, NamesGood s.files l → (∀ p ∈ l, (standsOf s.names p.2 || standsOf s.safe p.2) = true) → NamesGood (sweptOf s).files l := by
    intro l hl hst
    refine hl.over fun p hp => ?_
    obtain ⟨f, hf, e⟩ := List.mem_map.1 (hl.ids p hp)
    refine List.mem_map.2 ⟨f, List.mem_filter.2 ⟨hf, ?_⟩, e⟩
    rw [e]
    exact hst p hp
  refine ⟨⟨h.cap0, h.cap1, h.next0, h.next1, Nat.le_trans (List.length_filter_le _ _) h.few, h.rise.filter _, fun f hf => h.ids f (List.mem_filter.1 hf).1, fun f hf => h.sync f (List.mem_filter.1 hf).1, Int.le_trans (used_filter _ _) h.used, ?_, ?_⟩, ?_⟩
  · refine hn _ h.names fun p hp => ?_
    have : standsOf s.names p.2 = true := (stands_iff _ _).2 (List.mem_map.2 ⟨p, hp, rfl⟩)
    rw [this]
    rfl
  · refine hn _ h.safe fun p hp => ?_
    have : standsOf s.safe p.2 = true := (stands_iff _ _).2 (List.mem_map.2 ⟨p, hp, rfl⟩)
    rw [this]
    simp
  · intro f hf
    have := (List.mem_filter.1 hf).2
    simp only [Bool.or_eq_true] at this
    rcases this with q | q
    · exact .inl ((stands_iff _ _).1 q)
    · exact .inr ((stands_iff _ _).1 q)

theorem nearly_names {s : St} (h : Nearly s) {l : List (List Int × Int)} (hl : NamesGood s.files l) : Nearly { s with names := l } :=
  ⟨h.cap0, h.cap1, h.next0, h.next1, h.few, h.rise, h.ids, h.sync, h.used, hl, h.safe⟩
theorem nearly_safe {s : St} (h : Nearly s) {l : List (List Int × Int)} (hl : NamesGood s.files l) : Nearly { s with safe := l } :=
  ⟨h.cap0, h.cap1, h.next0, h.next1, h.few, h.rise, h.ids, h.sync, h.used, h.names, hl⟩

theorem rise_ids {fs : List (Int × List Int × Int)} : (fs.Pairwise fun a b => a.1 < b.1) ↔ (fs.map (·.1)).Pairwise (· < ·) := by rw [List.pairwise_map]

/-- The files are others, of the same numbers. -/
theorem nearly_files {s : St} (h : Nearly s) {fs : List (Int × List Int × Int)} (hi : fs.map (·.1) = s.files.map (·.1)) (hs : ∀ f ∈ fs, 0 ≤ f.2.2 ∧ f.2.2 ≤ (f.2.1.length : Int)) (hu : usedOf fs ≤ s.cap) : Nearly { s with files := fs } := by
  have hl : fs.length = s.files.length := by
    have := congrArg List.length hi
    simpa using this
  refine ⟨h.cap0, h.cap1, h.next0, h.next1, by simp only; rw [hl]; exact h.few, ?_, ?_, hs, hu, ?_, ?_⟩
  · simp only
    rw [rise_ids, hi, ← rise_ids]
    exact h.rise
  · intro f hf
    have : f.1 ∈ s.files.map (·.1) := by rw [← hi]; exact List.mem_map.2 ⟨f, hf, rfl⟩
    obtain ⟨g, hg, e⟩ := List.mem_map.1 this
    have := h.ids g hg
    rw [e] at this
    exact this
  · refine h.names.over fun p hp => ?_
    simp only
    rw [hi]
    exact h.names.ids p hp
  · refine h.safe.over fun p hp => ?_
    simp only
    rw [hi]
    exact h.safe.ids p hp

theorem good_files {s : St} (h : Good s) {fs : List (Int × List Int × Int)} (hi : fs.map (·.1) = s.files.map (·.1)) (hs : ∀ f ∈ fs, 0 ≤ f.2.2 ∧ f.2.2 ≤ (f.2.1.length : Int)) (hu : usedOf fs ≤ s.cap) : Good { s with files := fs } := by
  refine ⟨nearly_files h.toNearly hi hs hu, fun f hf => ?_⟩
  have : f.1 ∈ s.files.map (·.1) := by rw [← hi]; exact List.mem_map.2 ⟨f, hf, rfl⟩
  obtain ⟨g, hg, e⟩ := List.mem_map.1 this
  have := h.all g hg
  rw [e] at this
  exact this

theorem crash_good {s : St} (h : Good s) (keep : List Int) : Good (crashP s keep).1 := by
  unfold crashP
  rw [good_check h]
  simp only [if_true]
  refine nearly_swept ?_
  have hat : ∀ i (h1 : i < (cutTo keep s.files s.files.length).length) (h2 : i < s.files.length), (cutTo keep s.files s.files.length)[i] = cutF s.files[i] (keep.getD i 0) := by
    intro i h1 h2
    have e := cutTo_at keep s.files s.files.length i h2
    rw [if_pos h2] at e
    simpa [List.getD, h1, h2] using e
  have hleft : ∀ i (h2 : i < s.files.length), 0 ≤ leftN s.files[i] (keep.getD i 0) ∧ leftN s.files[i] (keep.getD i 0) ≤ (s.files[i].2.1.length : Int) := by
    intro i h2
    have := h.sync s.files[i] (List.getElem_mem _)
    unfold leftN
    omega
  have hf : Nearly { s with files := cutTo keep s.files s.files.length } := by
    refine nearly_files h.toNearly ?_ ?_ ?_
    · apply List.ext_getElem
      · simp [cutTo_len]
      · intro i h1 h2
        rw [List.getElem_map, List.getElem_map, hat i (by simpa using h1) (by simpa using h2)]
        rfl
    · intro f hf
      obtain ⟨i, hi, rfl⟩ := List.getElem_of_mem hf
      have hi2 : i < s.files.length := by rw [cutTo_len] at hi; exact hi
      rw [hat i hi hi2]
      have := hleft i hi2
      unfold cutF
      simp only
      refine ⟨this.1, ?_⟩
      rw [List.length_take]
      omega
    · refine Int.le_trans (used_less _ s.files (cutTo_len _ _ _) ?_) h.used
      intro i h1 h2
      rw [hat i h1 h2]
      unfold cutF
      simp only
      rw [List.length_take]
      omega
  have h2 : NamesGood (cutTo keep s.files s.files.length) s.safe := hf.safe
  exact nearly_names hf h2
end Go.Proofs.YtnchjlimkgbfpaaGreatDoor

/- Every act leaves a state that may be. -/
namespace Go.Proofs.YtnchjlimkgbfpaaGreatDoor
open Go.RowKit
set_option linter.unusedVariables false
set_option maxRecDepth 20000

theorem lessL_total : ∀ a b : List Int, lessL a b = true ∨ a = b ∨ lessL b a = true
  | [], [] => .inr (.inl rfl)
  | [], y :: b => .inl (by simp [lessL])
  | x :: a, [] => .inr (.inr (by simp [lessL]))
  | x :: a, y :: b => by
    rcases Int.lt_trichotomy x y with c | c | c
    · exact .inl (lessL_head x y c a b)
    · subst c
      rw [lessL_same, lessL_same]
      rcases lessL_total a b with q | q | q
      · exact .inl q
      · exact .inr (.inl (by rw [q]))
      · exact .inr (.inr q)
    · exact .inr (.inr (lessL_head y x c b a))

theorem drop_head {A : Type} {p : A → Bool} : ∀ {l : List A} {z : A} {r : List A}, l.dropWhile p = z :: r → p z = false
  | [], z, r, h => by simp at h
  | x :: l, z, r, h => by
    rw [List.dropWhile_cons] at h
    split at h
    · exact drop_head h
    · rename_i hx
      simp only [List.cons.injEq] at h
      rw [← h.1]
      simpa using hx

theorem rank_take {A : Type} (p : A → Bool) (l : List A) : l.take (rankOf p l) = l.takeWhile p := by
  have h : l.takeWhile p ++ l.dropWhile p = l := List.takeWhile_append_dropWhile
  unfold rankOf
  generalize l.takeWhile p = a at *
  generalize l.dropWhile p = b at *
  subst h
  simp
theorem rank_drop {A : Type} (p : A → Bool) (l : List A) : l.drop (rankOf p l) = l.dropWhile p := by
  have h : l.takeWhile p ++ l.dropWhile p = l := List.takeWhile_append_dropWhile
  unfold rankOf
  generalize l.takeWhile p = a at *
  generalize l.dropWhile p = b at *
  subst h
  simp

theorem mem_tw {A : Type} {p : A → Bool} : ∀ {l : List A} {x : A}, x ∈ l.takeWhile p → p x = true
  | [], x, h => by simp at h
  | y :: l, x, h => by
    rw [List.takeWhile_cons] at h
    split at h
    · rename_i hy
      rcases List.mem_cons.1 h with rfl | h
      · exact hy
      · exact mem_tw h
    · simp at h

/-- Where a name is not there, those behind its place are greater. -/
theorem behind_greater {l : List (List Int × Int)} (h : l.Pairwise fun a b => lessL a.1 b.1 = true) {t : List Int} (hn : thereN l t = false) : ∀ y ∈ l.dropWhile (fun p => lessL p.1 t), lessL t y.1 = true := by
  cases hd : l.dropWhile (fun p => lessL p.1 t) with
  | nil => intro y hy; cases hy
  | cons z r =>
    have hz := drop_head hd
    have hsub : (z :: r).Pairwise fun a b => lessL a.1 b.1 = true := by
      rw [← hd]
      exact h.sublist (List.dropWhile_sublist _)
    have hdr : l.drop (rankN l t) = z :: r := by
      unfold rankN
      rw [rank_drop, hd]
    have hlt : rankN l t < l.length := by
      have := congrArg List.length hdr
      simp only [List.length_drop, List.length_cons] at this
      omega
    have hg : l.getD (rankN l t) ([], 0) = z := by
      rw [List.drop_eq_getElem_cons hlt] at hdr
      simp only [List.cons.injEq] at hdr
      simp [List.getD, hlt, hdr.1]
    have hne : ¬ z.1 = t := by
      intro e
      unfold thereN at hn
      rw [hg] at hn
      simp [hlt, e] at hn
    have hz2 : lessL t z.1 = true := by
      rcases lessL_total t z.1 with q | q | q
      · exact q
      · exact absurd q.symm hne
      · rw [hz] at q; cases q
    intro y hy
    rcases List.mem_cons.1 hy with rfl | hy
    · exact hz2
    · exact lessL_trans _ _ _ hz2 ((List.pairwise_cons.1 hsub).1 y hy)

theorem ins_rise {l : List (List Int × Int)} (h : l.Pairwise fun a b => lessL a.1 b.1 = true) {t : List Int} (id : Int) (hn : thereN l t = false) : (insN l (rankN l t) (t, id)).Pairwise fun a b => lessL a.1 b.1 = true := by
  have hb := behind_greater h hn
  unfold insN rankN
  rw [rank_take, rank_drop]
  have hl : l.takeWhile (fun p => lessL p.1 t) ++ l.dropWhile (fun p => lessL p.1 t) = l := List.takeWhile_append_dropWhile
  rw [← hl, List.pairwise_append] at h
  rw [List.pairwise_append]
  refine ⟨h.1, List.pairwise_cons.2 ⟨hb, h.2.1⟩, ?_⟩
  intro y hy z hz
  rcases List.mem_cons.1 hz with rfl | hz
  · exact mem_tw (p := fun p : List Int × Int => lessL p.1 t) hy
  · exact h.2.2 y hy z hz

theorem ins_perm (l : List (List Int × Int)) (i : Nat) (x : List Int × Int) : (insN l i x).Perm (x :: l) := by
  unfold insN
  have := List.perm_middle (a := x) (l₁ := l.take i) (l₂ := l.drop i)
  rwa [List.take_append_drop] at this

theorem ins_good {fs : List (Int × List Int × Int)} {l : List (List Int × Int)} (h : NamesGood fs l) {t : List Int} {id : Int} (hm : mayOf t = true) (hn : thereN l t = false) (hid : id ∈ fs.map (·.1)) (hno : id ∉ l.map (·.2)) : NamesGood fs (insN l (rankN l t) (t, id)) := by
  refine ⟨?_, ins_rise h.rise id hn, ?_, ?_⟩
  · intro p hp
    rcases insN_mem hp with rfl | hp
    · exact hm
    · exact h.may p hp
  · intro p hp
    rcases insN_mem hp with rfl | hp
    · exact hid
    · exact h.ids p hp
  · rw [((ins_perm l _ _).map (·.2)).nodup_iff]
    exact List.nodup_cons.2 ⟨hno, h.once⟩

theorem create_good {s : St} (h : Good s) (name : List Int) : Good (createP s name).1 := by
  unfold createP
  by_cases c1 : mayOf name = true
  · rw [if_pos c1]
    by_cases c2 : thereN s.names name = true
    · rw [if_pos c2]; exact h
    · rw [if_neg c2]
      by_cases c3 : s.files.length = 256 ∨ s.next = 2147483647
      · rw [if_pos c3]; exact h
      · rw [if_neg c3]
        have hn : thereN s.names name = false := by simpa using c2
        have few := h.few
        have n0 := h.next0
        have n1 := h.next1
        have idx : (s.files ++ [(s.next, ([] : List Int), (0 : Int))]).map (fun f => f.1) = s.files.map (fun f => f.1) ++ [s.next] := by simp
        have hno : ∀ l, NamesGood s.files l → s.next ∉ l.map (·.2) := by
          intro l hl q
          obtain ⟨p, hp, e⟩ := List.mem_map.1 q
          obtain ⟨f, hf, e2⟩ := List.mem_map.1 (hl.ids p hp)
          have := (h.ids f hf).2
          omega
        have over : ∀ l, NamesGood s.files l → NamesGood (s.files ++ [(s.next, [], 0)]) l := fun l hl => hl.over fun p hp => by
          rw [idx]
          exact List.mem_append.2 (.inl (hl.ids p hp))
        refine ⟨⟨h.cap0, h.cap1, by simp only; omega, by simp only; omega, by simp; omega, ?_, ?_, ?_, ?_, ?_, over _ h.safe⟩, ?_⟩
        · simp only
          rw [List.pairwise_append]
          refine ⟨h.rise, by simp, ?_⟩
          intro f hf g hg
          simp at hg
          subst hg
          exact (h.ids f hf).2
        · intro f hf
          simp only
          rcases List.mem_append.1 hf with hf | hf
          · have := h.ids f hf
            omega
          · simp at hf
            subst hf
            simp only
            omega
        · intro f hf
          rcases List.mem_append.1 hf with hf | hf
          · exact h.sync f hf
          · simp at hf
            subst hf
            simp
        · simp only
          rw [used_append]
          have := h.used
          simp [usedOf] at this ⊢
          exact this
        · exact ins_good (over _ h.names) c1 hn (by rw [idx]; simp) (hno _ h.names)
        · intro f hf
          simp only
          have hp := (ins_perm s.names (rankN s.names name) (name, s.next)).map (·.2)
          rcases List.mem_append.1 hf with hf | hf
          · rcases h.all f hf with q | q
            · exact .inl (hp.mem_iff.2 (List.mem_cons.2 (.inr q)))
            · exact .inr q
          · simp at hf
            subst hf
            exact .inl (hp.mem_iff.2 (List.mem_cons.2 (.inl rfl)))
  · rw [if_neg c1]; exact h

theorem used_set : ∀ (l : List (Int × List Int × Int)) (i : Nat) (hi : i < l.length) (f : Int × List Int × Int), usedOf (l.set i f) = usedOf l - (l[i].2.1.length : Int) + (f.2.1.length : Int)
  | x :: l, 0, _, f => by
    rw [List.set_cons_zero, used_cons, used_cons]
    simp
    omega
  | x :: l, i + 1, hi, f => by
    rw [List.set_cons_succ, used_cons, used_cons, used_set l i (by simpa using hi) f]
    simp
    omega
  | [], i, hi, f => by simp at hi

theorem has_lt {s : St} {name : List Int} (h : hasF s name = true) : idxF s name < s.files.length := by
  unfold hasF thereF at h
  simp only [Bool.and_eq_true, decide_eq_true_eq] at h
  exact h.2.1

/-- One file is another, of the same number. -/
theorem good_set {s : St} (h : Good s) (i : Nat) (hi : i < s.files.length) (f : Int × List Int × Int) (h1 : f.1 = (fileD s i).1) (h2 : 0 ≤ f.2.2 ∧ f.2.2 ≤ (f.2.1.length : Int)) (h3 : usedOf s.files - ((fileD s i).2.1.length : Int) + (f.2.1.length : Int) ≤ s.cap) : Good { s with files := s.files.set i f } := by
  have e : fileD s i = s.files[i] := by simp [fileD, List.getD, hi]
  rw [e] at h1 h3
  refine good_files h ?_ ?_ ?_
  · rw [List.map_set, h1]
    apply List.ext_getElem
    · simp
    · intro j q1 q2
      rw [List.getElem_set]
      split
      · rename_i q
        subst q
        simp
      · rfl
  · intro g hg
    rcases List.mem_or_eq_of_mem_set hg with hg | rfl
    · exact h.sync g hg
    · exact h2
  · rw [used_set s.files i hi f]
    exact h3

theorem extend_good {s : St} (h : Good s) (name data : List Int) : Good (extendP s name data).1 := by
  unfold extendP
  by_cases c1 : hasF s name = true
  · rw [if_pos c1]
    by_cases c2 : s.cap - usedOf s.files < (data.length : Int)
    · rw [if_pos c2]; exact h
    · rw [if_neg c2]
      have hi := has_lt c1
      have hs := h.sync (fileD s (idxF s name)) (by simp [fileD, List.getD, hi])
      refine good_set h _ hi _ rfl ?_ ?_
      · simp only [List.length_append]
        omega
      · simp only [List.length_append]
        omega
  · rw [if_neg c1]; exact h

theorem sync_good {s : St} (h : Good s) (name : List Int) : Good (syncP s name).1 := by
  unfold syncP
  by_cases c1 : hasF s name = true
  · rw [if_pos c1]
    have hi := has_lt c1
    refine good_set h _ hi _ rfl ?_ ?_
    · simp only
      omega
    · simp only
      have := h.used
      omega
  · rw [if_neg c1]; exact h

theorem remove_good {s : St} (h : Good s) (name : List Int) : Good (removeP s name).1 := by
  unfold removeP
  by_cases c1 : thereN s.names name = true
  · rw [if_pos c1]
    exact nearly_swept (nearly_names h.toNearly (h.names.sub (List.eraseIdx_sublist _ _)))
  · rw [if_neg c1]; exact h

theorem syncNames_good {s : St} (h : Good s) : Good (syncNamesP s) := nearly_swept (nearly_safe h.toNearly h.names)

theorem erase_perm {A : Type} : ∀ (l : List A) (i : Nat) (hi : i < l.length), l.Perm (l[i] :: l.eraseIdx i)
  | x :: l, 0, _ => by simp
  | x :: l, i + 1, hi => by
    have h := erase_perm l i (by simpa using hi)
    simp only [List.getElem_cons_succ, List.eraseIdx_cons_succ]
    exact (h.cons x).trans (List.Perm.swap _ _ _)
  | [], i, hi => by simp at hi

theorem set_perm {A : Type} : ∀ (l : List A) (i : Nat) (hi : i < l.length) (a : A), (l.set i a).Perm (a :: l.eraseIdx i)
  | x :: l, 0, _, a => by simp
  | x :: l, i + 1, hi, a => by
    have h := set_perm l i (by simpa using hi) a
    simp only [List.set_cons_succ, List.eraseIdx_cons_succ]
    exact (h.cons x).trans (List.Perm.swap _ _ _)
  | [], i, hi, a => by simp at hi

theorem erase_not {l : List (List Int × Int)} (h : (l.map (·.2)).Nodup) {i : Nat} (hi : i < l.length) : (l.getD i ([], 0)).2 ∉ (l.eraseIdx i).map (·.2) := by
  have e : l.getD i ([], 0) = l[i] := by simp [List.getD, hi]
  rw [e]
  have hp : l.Perm (l[i] :: l.eraseIdx i) := erase_perm l i hi
  have := (hp.map (·.2)).nodup_iff.1 h
  exact (List.nodup_cons.1 this).1

theorem renamed_good {fs : List (Int × List Int × Int)} {l : List (List Int × Int)} (h : NamesGood fs l) {t : List Int} {id : Int} (hm : mayOf t = true) (hid : id ∈ fs.map (·.1)) (hno : id ∉ l.map (·.2)) : NamesGood fs (renamed l t id) := by
  unfold renamed
  by_cases c : thereN l t = true
  · rw [if_pos c]
    have hi := lt_of_thereN c
    have e : l.getD (rankN l t) ([], 0) = l[rankN l t] := by simp [List.getD, hi]
    rw [e]
    refine ⟨?_, ?_, ?_, ?_⟩
    · intro p hp
      rcases List.mem_or_eq_of_mem_set hp with hp | rfl
      · exact h.may p hp
      · show mayOf l[rankN l t].1 = true
        exact h.may _ (List.getElem_mem hi)
    · have key : (l.set (rankN l t) (l[rankN l t].1, id)).map (·.1) = l.map (·.1) := by
        rw [List.map_set]
        apply List.ext_getElem
        · simp
        · intro j q1 q2
          rw [List.getElem_set]
          split
          · rename_i q
            subst q
            simp
          · rfl
      have h1 := h.rise
      rw [← List.pairwise_map (f := fun p : List Int × Int => p.1) (R := fun a b => lessL a b = true)] at h1 ⊢
      rw [key]
      exact h1
    · intro p hp
      rcases List.mem_or_eq_of_mem_set hp with hp | rfl
      · exact h.ids p hp
      · exact hid
    · rw [List.map_set]
      have hp := set_perm (l.map (·.2)) (rankN l t) (by simpa using hi) id
      rw [hp.nodup_iff]
      refine List.nodup_cons.2 ⟨fun q => hno ((List.eraseIdx_sublist _ _).subset q), h.once.sublist (List.eraseIdx_sublist _ _)⟩
  · rw [if_neg c]
    exact ins_good h hm (by simpa using c) hid hno

theorem rename_good {s : St} (h : Good s) (name tn : List Int) : Good (renameP s name tn).1 := by
  unfold renameP
  by_cases c1 : thereN s.names name = true
  · rw [if_pos c1]
    by_cases c2 : mayOf tn = true
    · rw [if_pos c2]
      by_cases c3 : tn = name
      · rw [if_pos c3]; exact h
      · rw [if_neg c3]
        have hi := lt_of_thereN c1
        have hid : idN s name ∈ s.files.map (·.1) := by
          unfold idN
          refine h.names.ids _ ?_
          simp [List.getD, hi]
        exact nearly_swept (nearly_names h.toNearly (renamed_good (h.names.sub (List.eraseIdx_sublist _ _)) c2 hid (erase_not h.names.once hi)))
    · rw [if_neg c2]; exact h
  · rw [if_neg c1]; exact h

theorem act_good {s : St} (h : Good s) (a : Ac) : Good (actP s a).1 := by
  unfold actP
  split
  · exact create_good h _
  · split
    · exact extend_good h _ _
    · split
      · exact sync_good h _
      · split
        · exact rename_good h _ _
        · split
          · exact remove_good h _
          · split
            · exact syncNames_good h
            · exact h

theorem after_good {s : St} (h : Good s) (l : List Ac) : ∀ k, k ≤ l.length → Good ((l.take k).foldl (fun s a => (actP s a).1) s) := by
  intro k _
  generalize l.take k = m
  induction m generalizing s with
  | nil => exact h
  | cons a m ih => exact ih (act_good h a)
end Go.Proofs.YtnchjlimkgbfpaaGreatDoor
