/- What is read behind the names were synced, and behind a crash, said plainly. -/
import Derived.Test.YtoceddpjkodfkaaW1
import Derived.Test.YtoceddpjkodfkaaT4
namespace Go.Proofs.Ytoceddpjkodfkaa
open Go.RowKit
set_option linter.unusedVariables false

theorem rank_at {A : Type} {p : A → Bool} {l : List A} {i : Nat} (hi : i < l.length) (h1 : ∀ j (hj : j < l.length), j < i → p l[j] = true) (h2 : p l[i] = false) : rankOf p l = i := by
  have e : l = l.take i ++ l[i] :: l.drop (i + 1) := by
    rw [List.getElem_cons_drop, List.take_append_drop]
  unfold rankOf
  rw [e, takeWhile_all]
  · rw [List.takeWhile_cons_of_neg (by rw [h2]; decide), List.append_nil, List.length_take]
    omega
  · intro x hx
    obtain ⟨j, hj, rfl⟩ := List.getElem_of_mem hx
    rw [List.length_take] at hj
    rw [List.getElem_take]
    exact h1 j (by omega) (by omega)

theorem rankN_at {l : List (List Int × Int)} (h : l.Pairwise fun a b => lessL a.1 b.1 = true) {i : Nat} (hi : i < l.length) : rankN l (l[i]).1 = i := by
  rw [List.pairwise_iff_getElem] at h
  exact rank_at hi (fun j hj hji => h j i hj hi hji) (lessL_self _)

theorem rankF_at {l : List (Int × List Int × Int)} (h : l.Pairwise fun a b => a.1 < b.1) {i : Nat} (hi : i < l.length) : rankF l (l[i]).1 = i := by
  rw [List.pairwise_iff_getElem] at h
  exact rank_at hi (fun j hj hji => by simpa using h j i hj hi hji) (by simp)

/-- Where a name's file lies. -/
theorem named {s : St} (h : Good s) {i : Nat} (hi : i < s.names.length) : ∃ k, ∃ hk : k < s.files.length, (s.files[k]).1 = (s.names[i]).2 ∧ hasF s (s.names[i]).1 = true ∧ idxF s (s.names[i]).1 = k := by
  have hm := h.names.ids _ (List.getElem_mem hi)
  obtain ⟨f, hf, e⟩ := List.mem_map.1 hm
  obtain ⟨k, hk, rfl⟩ := List.getElem_of_mem hf
  have hr := rankN_at h.names.rise hi
  have hid : idN s (s.names[i]).1 = (s.names[i]).2 := by
    unfold idN
    rw [hr]
    simp [List.getD, hi]
  have hrk : rankF s.files (s.names[i]).2 = k := by
    rw [← e]
    exact rankF_at h.rise hk
  refine ⟨k, hk, e, ?_, ?_⟩
  · unfold hasF
    rw [hid]
    unfold thereN thereF
    rw [hr, hrk]
    simp [List.getD, hi, hk, e]
  · unfold idxF
    rw [hid, hrk]

theorem read_at {s : St} (h : Good s) {i k : Nat} (hi : i < s.names.length) (hk : k < s.files.length) (e : (s.files[k]).1 = (s.names[i]).2) : readP s (s.names[i]).1 = ((s.files[k]).2.1, 0) := by
  obtain ⟨j, hj, ej, hh, hx⟩ := named h hi
  have : j = k := by
    have h1 := rankF_at h.rise hj
    have h2 := rankF_at h.rise hk
    rw [ej] at h1
    rw [e] at h2
    omega
  subst this
  unfold readP
  rw [good_check h, hh]
  simp only [if_true]
  rw [hx]
  simp [fileD, List.getD, hj]

theorem crash_files {s : St} (h : Good s) (hs : s.names = s.safe) (keep : List Int) : (crashP s keep).1.files = cutTo keep s.files s.files.length := by
  have hall := h.all
  unfold crashP
  rw [good_check h]
  simp only [if_true]
  unfold sweptOf
  simp only
  refine List.filter_eq_self.2 ?_
  intro f hf
  have hm : f.1 ∈ s.files.map (·.1) := by
    rw [← cutTo_ids keep s.files]
    exact List.mem_map.2 ⟨f, hf, rfl⟩
  obtain ⟨g, hg, e⟩ := List.mem_map.1 hm
  have := hall g hg
  rw [e, hs] at this
  have hst := (stands_iff s.safe f.1).2 (by simpa using this)
  simp [hst]

/-- What is read of a file, and behind a crash. -/
theorem last_read {s : St} (h : Good s) (hs : s.names = s.safe) (keep : List Int) {i : Nat} (hi : i < s.names.length) :
    ∃ (d : List Int) (n : Nat), readP s (s.names[i]).1 = (d, 0) ∧ readP (crashP s keep).1 (s.names[i]).1 = (d.take n, 0) ∧ n ≤ d.length ∧ d.length ≤ 16777216 ∧ ∀ k (hk : k < s.files.length), (s.files[k]).1 = (s.names[i]).2 → (s.files[k]).2.2 ≤ (n : Int) := by
  obtain ⟨k, hk, e, _, _⟩ := named h hi
  have hc := crash_good h keep
  have hcn := crash_names h keep
  have hcf := crash_files h hs keep
  have hsy := h.sync _ (List.getElem_mem hk)
  have hlf := left_le (s.files[k]) (keep.getD k 0) hsy.1 hsy.2
  have hlen : (s.files[k]).2.1.length ≤ 16777216 := by
    have h1 := h.used
    have h2 := h.cap1
    have h3 : ((s.files[k]).2.1.length : Int) ≤ usedOf s.files := by
      have hd : s.files = s.files.take k ++ s.files[k] :: s.files.drop (k + 1) := by
        rw [List.getElem_cons_drop, List.take_append_drop]
      have e1 : usedOf s.files = usedOf (s.files.take k) + (((s.files[k]).2.1.length : Int) + usedOf (s.files.drop (k + 1))) := by
        rw [← used_cons, ← used_append, ← hd]
      have e2 := used_nonneg (s.files.take k)
      have e3 := used_nonneg (s.files.drop (k + 1))
      omega
    omega
  refine ⟨(s.files[k]).2.1, (leftN (s.files[k]) (keep.getD k 0)).toNat, read_at h hi hk e, ?_, by omega, hlen, ?_⟩
  · have hn : (crashP s keep).1.names = s.names := by rw [hcn.1, hs]
    have hi2 : i < (crashP s keep).1.names.length := by rw [hn]; exact hi
    have hk2 : k < (crashP s keep).1.files.length := by rw [hcf, cutTo_len]; exact hk
    have ef : (crashP s keep).1.files[k] = cutF (s.files[k]) (keep.getD k 0) := by
      have e1 := cutTo_at keep s.files s.files.length k hk
      rw [if_pos hk] at e1
      have e2 : (crashP s keep).1.files.getD k (0, [], 0) = cutF (s.files.getD k (0, [], 0)) (keep.getD k 0) := by rw [hcf]; exact e1
      simpa [List.getD, hk2, hk] using e2
    have en : (crashP s keep).1.names[i] = s.names[i] := by simp only [hn]
    have := read_at hc hi2 hk2 (by rw [ef, en]; exact e)
    rw [en, ef] at this
    exact this
  · intro j hj ej
    have : j = k := by
      have h1 := rankF_at h.rise hj
      have h2 := rankF_at h.rise hk
      rw [ej] at h1
      rw [e] at h2
      omega
    subst this
    omega

theorem sync_names {s : St} (h : Good s) : Good (syncNamesP s) ∧ (syncNamesP s).names = (syncNamesP s).safe := ⟨syncNames_good h, rfl⟩

theorem do_six {s : St} : (checkP s = true ∧ doP s ⟨6, [], [], []⟩ = (syncNamesP s, 0)) ∨ (checkP s = false ∧ doP s ⟨6, [], [], []⟩ = (z0, 9)) := by
  cases hc : checkP s
  · right
    refine ⟨rfl, ?_⟩
    unfold doP
    rw [hc]
    rfl
  · left
    refine ⟨rfl, ?_⟩
    unfold doP
    rw [hc]
    simp only [if_true]
    have : actP s ⟨6, [], [], []⟩ = (syncNamesP s, 0) := rfl
    rw [this]
    rfl

theorem list_good {s : St} (h : Good s) : listP s = (s.names.map (·.1), 0) := by
  unfold listP
  rw [good_check h]
  rfl

theorem Octs.cut {w : World} {a : Option Addr} {c : Nat} {l : List Int} (h : Octs w (.slice a l.length c) l) {n : Nat} (hn : n ≤ l.length) : Octs w (.slice a n c) (l.take n) := by
  obtain ⟨h0, h⟩ := h
  refine ⟨fun x hx => h0 x (List.mem_of_mem_take hx), ?_⟩
  rcases h with ⟨hl, a', cap, e, ha⟩ | ⟨hl, b, off, cap, e, hc, hm, hj⟩
  · subst hl
    simp at e
    obtain ⟨rfl, rfl⟩ := e
    have : n = 0 := by simpa using hn
    subst this
    exact .inl ⟨by simp, _, _, rfl, ha⟩
  · simp at e
    obtain ⟨rfl, rfl⟩ := e
    have hlen : (l.take n).length = n := by rw [List.length_take]; omega
    by_cases h0 : n = 0
    · subst h0
      exact .inl ⟨by simp, _, _, rfl, fun h => by cases h⟩
    · refine .inr ⟨?_, b, off, c, by rw [hlen], by omega, hm, fun j x hx => ?_⟩
      · intro q
        rw [q] at hlen
        simp at hlen
        omega
      · rw [List.getElem?_take] at hx
        split at hx
        · exact hj j x hx
        · cases hx
end Go.Proofs.Ytoceddpjkodfkaa
