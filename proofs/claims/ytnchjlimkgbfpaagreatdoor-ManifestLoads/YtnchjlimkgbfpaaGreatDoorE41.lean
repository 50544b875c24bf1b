/- The texts U3, M5h, T2, T3, in this order. -/
import Derived.Test.YtnchjlimkgbfpaaGreatDoorU2
import Derived.Test.YtnchjlimkgbfpaaGreatDoorE31
import Derived.Test.YtnchjlimkgbfpaaGreatDoorE32
import Derived.Deep.RegionHeld3

namespace Go.Proofs.YtnchjlimkgbfpaaGreatDoor
open Go.RowKit
set_option linter.unusedVariables false
set_option maxRecDepth 20000
theorem place_iff {A : Type} (p : A → Bool) (l : List A) : 0 ≤ placeOf p l ↔ ∃ x ∈ l, p x = true := by
  induction l with
  | nil => simp [placeOf]
  | cons x l ih =>
    simp only [placeOf]
    by_cases c : p x = true
    · rw [if_pos c]
      exact ⟨fun _ => ⟨x, by simp, c⟩, fun _ => by omega⟩
    · rw [if_neg c]
      have hg := (placeOf_ge p l).1
      by_cases d : placeOf p l = -1
      · rw [if_pos d]
        rw [d] at ih
        constructor
        · intro h; omega
        · rintro ⟨y, hy, hp⟩
          rcases List.mem_cons.1 hy with rfl | hy
          · exact absurd hp c
          · exact ih.2 ⟨y, hy, hp⟩
      · rw [if_neg d]
        constructor
        · intro h
          obtain ⟨y, hy, hp⟩ := ih.1 (by omega)
          exact ⟨y, by simp [hy], hp⟩
        · rintro ⟨y, hy, hp⟩
          omega
theorem file_iff (fs : List (Int × List Int × Int)) (id : Int) : 0 ≤ fileOf fs id ↔ id ∈ fs.map (·.1) := by
  unfold fileOf
  rw [place_iff, List.mem_map]
  constructor
  · rintro ⟨x, hx, h⟩
    exact ⟨x, hx, by simpa using h⟩
  · rintro ⟨x, hx, h⟩
    exact ⟨x, hx, by simpa using h⟩
theorem rise_step {l : List (List Int × Int)} (h : ∀ i, i < l.length → 0 < i → lessL (nameAt l (i - 1)).1 (nameAt l i).1 = true) : RiseN l := by
  intro a b hab hb
  induction b with
  | zero => omega
  | succ b ih =>
    have h1 := h (b + 1) hb (by omega)
    simp only [Nat.add_sub_cancel] at h1
    rcases Nat.lt_or_ge a b with c | c
    · exact lessL_trans _ _ _ (ih c (by omega)) h1
    · obtain rfl : a = b := by omega
      exact h1
theorem riseF_step {l : List (Int × List Int × Int)} (h : ∀ i, i < l.length → 0 < i → (l.getD (i - 1) (0, [], 0)).1 < (l.getD i (0, [], 0)).1) : RiseF l := by
  intro a b hab hb
  induction b with
  | zero => omega
  | succ b ih =>
    have h1 := h (b + 1) hb (by omega)
    simp only [Nat.add_sub_cancel] at h1
    rcases Nat.lt_or_ge a b with c | c
    · have := ih c (by omega)
      omega
    · obtain rfl : a = b := by omega
      exact h1
theorem names_iff (fs : List (Int × List Int × Int)) (l : List (List Int × Int)) : namesOf fs l = true ↔ NamesGood fs l := by
  constructor
  · intro h
    have hok : ∀ i, i < l.length → okName fs l i = true := all_range_get h
    have hp : ∀ i, i < l.length → mayOf (nameAt l i).1 = true ∧ (i = 0 ∨ lessL (nameAt l (i - 1)).1 (nameAt l i).1 = true) ∧ 0 ≤ fileOf fs (nameAt l i).2 ∧ ∀ k, k < i → (nameAt l k).2 ≠ (nameAt l i).2 := by
      intro i hi
      have := hok i hi
      unfold okName at this
      simp only [Bool.and_eq_true, Bool.or_eq_true, decide_eq_true_eq, List.all_eq_true, List.mem_range] at this
      refine ⟨this.1.1.1, this.1.1.2, this.1.2, fun k hk => ?_⟩
      have := this.2 k hk
      simpa using this
    have ha : ∀ p ∈ l, ∃ i, i < l.length ∧ nameAt l i = p := by
      intro p hp
      obtain ⟨i, hi, rfl⟩ := List.getElem_of_mem hp
      exact ⟨i, hi, by simp [nameAt, List.getD, hi]⟩
    refine ⟨?_, ?_, ?_, ?_⟩
    · intro p hpl
      obtain ⟨i, hi, rfl⟩ := ha p hpl
      exact (hp i hi).1
    · refine riseN_pairwise.1 (rise_step fun i hi h0 => ?_)
      rcases (hp i hi).2.1 with c | c
      · omega
      · exact c
    · intro p hpl
      obtain ⟨i, hi, rfl⟩ := ha p hpl
      exact (file_iff _ _).1 (hp i hi).2.2.1
    · unfold List.Nodup
      rw [List.pairwise_map, List.pairwise_iff_getElem]
      intro i j hi hj hij
      have := (hp j hj).2.2.2 i hij
      simpa [nameAt, List.getD, hi, hj] using this
  · intro h
    refine all_range_yes fun i hi => ?_
    have hm : nameAt l i ∈ l := by
      have : nameAt l i = l[i] := by simp [nameAt, List.getD, hi]
      rw [this]
      exact List.getElem_mem _
    unfold okName
    simp only [Bool.and_eq_true, Bool.or_eq_true, decide_eq_true_eq, List.all_eq_true, List.mem_range]
    refine ⟨⟨⟨h.may _ hm, ?_⟩, (file_iff _ _).2 (h.ids _ hm)⟩, ?_⟩
    · rcases Nat.eq_zero_or_pos i with c | c
      · exact Or.inl c
      · exact Or.inr (riseN_pairwise.2 h.rise (i - 1) i (by omega) hi)
    · intro k hk
      have h1 := h.once
      unfold List.Nodup at h1
      rw [List.pairwise_map, List.pairwise_iff_getElem] at h1
      have := h1 k i (by omega) hi hk
      have e1 : nameAt l k = l[k] := by simp [nameAt, List.getD, (show k < l.length by omega)]
      have e2 : nameAt l i = l[i] := by simp [nameAt, List.getD, hi]
      rw [e1, e2]
      simpa using this
theorem few_names {fs : List (Int × List Int × Int)} {l : List (List Int × Int)} (h : NamesGood fs l) : l.length ≤ fs.length := by
  have h1 : (l.map (·.2)).length ≤ (fs.map (·.1)).length := by
    have hs : ∀ x ∈ l.map (·.2), x ∈ fs.map (·.1) := by
      intro x hx
      obtain ⟨p, hp, rfl⟩ := List.mem_map.1 hx
      exact h.ids p hp
    exact nodup_le _ _ h.once hs
  simpa using h1
theorem checkR_iff (s : St) : checkR s = true ↔ Good s := by
  constructor
  · intro h
    unfold checkR headR at h
    simp only [Bool.and_eq_true, decide_eq_true_eq] at h
    obtain ⟨⟨⟨⟨⟨⟨⟨⟨⟨⟨e1, e2⟩, e3⟩, e4⟩, e5⟩, e6⟩, e7⟩, e8⟩, h2⟩, h3⟩, h4⟩ := h
    have hok : ∀ i, i < s.files.length → okR s i = true := all_range_get h2
    have hp : ∀ i, i < s.files.length → 1 ≤ (s.files.getD i (0, [], 0)).1 ∧ (s.files.getD i (0, [], 0)).1 < s.next ∧ (i = 0 ∨ (s.files.getD (i - 1) (0, [], 0)).1 < (s.files.getD i (0, [], 0)).1) ∧ 0 ≤ (s.files.getD i (0, [], 0)).2.2 ∧ (s.files.getD i (0, [], 0)).2.2 ≤ ((s.files.getD i (0, [], 0)).2.1.length : Int) ∧ (standsOf s.names (s.files.getD i (0, [], 0)).1 = true ∨ standsOf s.safe (s.files.getD i (0, [], 0)).1 = true) := by
      intro i hi
      have := hok i hi
      unfold okR at this
      simp only [Bool.and_eq_true, Bool.or_eq_true, decide_eq_true_eq] at this
      obtain ⟨⟨⟨⟨⟨a1, a2⟩, a3⟩, a4⟩, a5⟩, a6⟩ := this
      exact ⟨a1, a2, a3, a4, a5, a6⟩
    have ha : ∀ f ∈ s.files, ∃ i, i < s.files.length ∧ s.files.getD i (0, [], 0) = f := by
      intro f hf
      obtain ⟨i, hi, rfl⟩ := List.getElem_of_mem hf
      exact ⟨i, hi, by simp [List.getD, hi]⟩
    refine ⟨⟨e1, e2, e4, e5, e3, ?_, ?_, ?_, e6, (names_iff _ _).1 h3, (names_iff _ _).1 h4⟩, ?_⟩
    · refine riseF_pairwise.1 (riseF_step fun i hi h0 => ?_)
      rcases (hp i hi).2.2.1 with c | c
      · omega
      · exact c
    · intro f hf
      obtain ⟨i, hi, rfl⟩ := ha f hf
      exact ⟨(hp i hi).1, (hp i hi).2.1⟩
    · intro f hf
      obtain ⟨i, hi, rfl⟩ := ha f hf
      exact ⟨(hp i hi).2.2.2.1, (hp i hi).2.2.2.2.1⟩
    · intro f hf
      obtain ⟨i, hi, rfl⟩ := ha f hf
      rcases (hp i hi).2.2.2.2.2 with c | c
      · exact Or.inl ((stands_iff _ _).1 c)
      · exact Or.inr ((stands_iff _ _).1 c)
  · intro h
    have n1 := few_names h.names
    have n2 := few_names h.safe
    have hfew := h.few
    unfold checkR headR
    simp only [Bool.and_eq_true, decide_eq_true_eq]
    refine ⟨⟨⟨⟨⟨⟨⟨⟨⟨⟨h.cap0, h.cap1⟩, h.few⟩, h.next0⟩, h.next1⟩, h.used⟩, by omega⟩, by omega⟩, ?_⟩, (names_iff _ _).2 h.names⟩, (names_iff _ _).2 h.safe⟩
    refine all_range_yes fun i hi => ?_
    have hm : s.files.getD i (0, [], 0) ∈ s.files := by
      have : s.files.getD i (0, [], 0) = s.files[i] := by simp [List.getD, hi]
      rw [this]
      exact List.getElem_mem _
    unfold okR
    simp only [Bool.and_eq_true, Bool.or_eq_true, decide_eq_true_eq]
    refine ⟨⟨⟨⟨⟨(h.ids _ hm).1, (h.ids _ hm).2⟩, ?_⟩, (h.sync _ hm).1⟩, (h.sync _ hm).2⟩, ?_⟩
    · rcases Nat.eq_zero_or_pos i with c | c
      · exact Or.inl c
      · exact Or.inr (riseF_pairwise.2 h.rise (i - 1) i (by omega) hi)
    · rcases h.all _ hm with c | c
      · exact Or.inl ((stands_iff _ _).2 c)
      · exact Or.inr ((stands_iff _ _).2 c)
theorem checkR_eq (s : St) : checkR s = checkP s := by
  rw [Bool.eq_iff_iff, checkR_iff, check_iff]
theorem refCheck_any (s : St) (v : Value) (w : World) (hv : StW w v s) :
    Calls Tryz.prog 39 #[v] w fun e w' => e = .returned (.int .i64 (errOf (checkP s))) ∧ Below w.heap.size w w' := by
  rw [← checkR_eq]
  have hs : checkR s = (headR s && allR s) := by unfold checkR allR; simp only [Bool.and_assoc]
  cases hh : headR s
  · have : checkR s = false := by rw [hs, hh]; rfl
    rw [this]
    exact refCheck_head s v w hv hh
  · have : checkR s = allR s := by rw [hs, hh]; rfl
    rw [this]
    exact refCheck_rest s v w hv hh
end Go.Proofs.YtnchjlimkgbfpaaGreatDoor

namespace Go.Proofs.YtnchjlimkgbfpaaGreatDoor
open Go.RowKit
set_option linter.unusedVariables false
set_option maxRecDepth 20000
theorem there_at {l : List (List Int × Int)} {t : List Int} (h : thereN l t = true) : ∃ hi : rankN l t < l.length, (l[rankN l t]).1 = t := by
  unfold thereN at h
  simp only [Bool.and_eq_true, decide_eq_true_eq] at h
  refine ⟨h.1, ?_⟩
  have := h.2
  simpa [List.getD, h.1] using this
theorem there_of {l : List (List Int × Int)} (hr : l.Pairwise fun a b => lessL a.1 b.1 = true) {p : List Int × Int} (hp : p ∈ l) : thereN l p.1 = true := by
  obtain ⟨i, hi, rfl⟩ := List.getElem_of_mem hp
  unfold thereN
  rw [rankN_at hr hi]
  simp [List.getD, hi]
theorem less_ne {a b : List Int} (h : lessL a b = true) : a ≠ b := by
  rintro rfl
  rw [lessL_self] at h
  cases h
theorem find_there {l : List (List Int × Int)} {t : List Int} (h : thereN l t = true) : findOf l t = (rankN l t : Int) := by
  obtain ⟨hi, e⟩ := there_at h
  unfold findOf
  refine placeOf_at _ l _ (l[rankN l t]) (List.getElem?_eq_getElem hi) (by simpa using e) ?_
  intro y hy
  have h1 : l.take (rankN l t) = l.takeWhile fun p => lessL p.1 t := rank_take _ l
  rw [h1] at hy
  have := less_ne (mem_tw (p := fun p : List Int × Int => lessL p.1 t) hy)
  simpa using this
theorem find_not {l : List (List Int × Int)} (hr : l.Pairwise fun a b => lessL a.1 b.1 = true) {t : List Int} (h : thereN l t = false) : findOf l t < 0 := by
  have h1 : ¬ 0 ≤ findOf l t := by
    intro q
    obtain ⟨x, hx, e⟩ := (place_iff _ l).1 q
    have e' : x.1 = t := by simpa using e
    have := there_of hr hx
    rw [e', h] at this
    cases this
  omega
theorem file_rank {s : St} (h : Good s) {i : Nat} (hi : i < s.names.length) : fileOf s.files (s.names[i]).2 = (rankF s.files (s.names[i]).2 : Int) := by
  obtain ⟨k, hk, e, _, _⟩ := named h hi
  have hr := rankF_at h.rise hk
  rw [e] at hr
  rw [hr]
  unfold fileOf
  refine placeOf_at _ s.files k (s.files[k]) (List.getElem?_eq_getElem hk) (by simpa using e) ?_
  intro y hy
  obtain ⟨j, hj, rfl⟩ := List.getElem_of_mem hy
  rw [List.length_take] at hj
  rw [List.getElem_take]
  have := (List.pairwise_iff_getElem.1 h.rise) j k (by omega) hk (by omega)
  rw [e] at this
  simp
  omega
end Go.Proofs.YtnchjlimkgbfpaaGreatDoor

namespace Go.Proofs.YtnchjlimkgbfpaaGreatDoor
open Go.RowKit
set_option linter.unusedVariables false
set_option maxRecDepth 20000
set_option linter.unusedSimpArgs false
theorem OwnF.snoc {w' w6 : World} {base : Nat} {vl : Option Addr} {n cl : Nat} {v6 : Value} {m : List FRow} {y : FRow} (h : OwnF w' base (.slice vl n cl) m) (hb : OwnB w' base y.1 y.2.2.1) (hok : okRow y) (hnew : ∀ z ∈ m, Apart z.1 y.1) (o : Obj) (o6 : OwnR w6 base 110 3 v6 (m.map frow ++ [frow y])) (g6 : (w'.alloc o).grownBy w6 (Value.ownBlock (.slice vl n cl))) : OwnF w6 base v6 (m ++ [y]) := by
  have u := up_al (Below.refl w'.heap.size w') o
  have hr := (h.up u).1
  refine ⟨by rw [List.map_append]; exact o6, ?_, ?_⟩
  · intro z hz
    rcases List.mem_append.1 hz with hz | hz
    · have := (h.up u).2.1 z hz
      exact ⟨this.1.far g6 (own_own_ne this.1 hr.2 (by decide)), this.2⟩
    · simp at hz
      subst hz
      exact ⟨(hb.up u).far g6 (own_own_ne (hb.up u) hr.2 (by decide)), hok⟩
  · rw [List.pairwise_append]
    refine ⟨h.2.2, by simp, ?_⟩
    intro a ha b hb'
    simp at hb'
    subst hb'
    exact hnew a ha
set_option maxHeartbeats 4000000 in
set_option maxRecDepth 20000 in
theorem some_any (l : List (Int × List Int × Int)) (v : Value) (w : World) (hv : FilesW w v l) (hl : l.length * 40 ≤ 140737488351232) :
    Calls Tryz.prog 29 #[v] w fun e w' => ∃ v', e = .returned v' ∧ ∃ m : List FRow, m.map (·.2) = l ∧ OwnF w' w.heap.size v' m ∧ Below w.heap.size w w' := by
  have HV : Hid (FilesW w v l) := hv
  obtain ⟨an, cn, en, _, _⟩ := hv.len
  subst en
  clear hv
  go_enter Tryz.func29, Tryz.ntmps29
  go_wp2_with fail
  go_loopw [3, 4] (fun vb i wr => ∃ (k : Nat) (m : List FRow) (vl : Option Addr) (cl : Nat), k ≤ l.length ∧ i = .int .i64 k ∧ vb = .slice vl k cl ∧ Hid (m.length = k ∧ m.map (·.2) = l.take k) ∧ Hid (OwnF wr w.heap.size (.slice vl k cl) m) ∧ Hid (Below w.heap.size w wr)) (fun _ i _ => l.length - (intOf i).toNat)
  case atStart => exact ⟨0, [], none, 0, Nat.zero_le _, rfl, rfl, ⟨rfl, rfl⟩, ⟨OwnR.nil _ _ _ _, (fun y hy => by cases hy), List.Pairwise.nil⟩, Below.refl _ _⟩
  case round =>
    obtain ⟨k, m, vl, cl, hk, rfl, rfl, HM, HO, up⟩ := hrel
    by_cases hlt : k < l.length
    · have hlt' : (k : Int) < (l.length : Int) := by omega
      obtain ⟨b, off, cap', u, e, _, _, c0, c1, c2, ho, hln, hi1, hi2⟩ := (HV.out.up up.out).at k hlt
      simp at e
      obtain ⟨rfl, rfl⟩ := e
      have HT : Hid (l.take (k + 1) = l.take k ++ [l.getD k (0, [], 0)]) := take_snoc l k _ hlt
      generalize l.getD k (0, [], 0) = y at *
      obtain ⟨yi, yd, ys⟩ := y
      simp only at c0 c1 c2 ho hln hi1 hi2
      obtain ⟨ad, cd, eu, _⟩ := ho.slice
      subst eu
      obtain ⟨dn, hdn⟩ : ∃ dn, dn = yd.length := ⟨_, rfl⟩
      rw [← hdn] at c1
      have HK : Hid (k < l.length) := hlt
      have HBl : Hid (b < w.heap.size) := by
        obtain ⟨b', off', cap2, u', e', _, _, z0, _⟩ := HV.out.at k hlt
        simp at e'
        obtain ⟨⟨rfl, rfl⟩, _⟩ := e'
        exact World.block_lt_of_cell? w _ z0
      have HG : Hid (∀ (w' w6 : World) (o : Obj), OwnF w' w.heap.size (.slice vl k cl) m → (w'.alloc o).grownBy w6 (Value.ownBlock (.slice vl k cl)) → ∀ o2 x, w'.cell? ⟨b, o2, none⟩ = some x → w6.cell? ⟨b, o2, none⟩ = some x) := by
        intro w' w6 o hF hg o2 x hc
        refine hg.cell (Lib.cell?_alloc_marked o hc) ?_
        intro q
        have := (hF.1.2.lt b q.symm).1
        have := HBl.out
        omega
      have HC : Hid (∀ X, Below wr.heap.size wr X → Calls Tryz.prog 69 #[.slice ad dn cd] X fun e w' => ∃ a2 c2, e = .returned (.slice a2 dn c2) ∧ w'.cell? ⟨b, off + k * 3, none⟩ = some (.int .i64 yi) ∧ w'.cell? ⟨b, off + k * 3 + 1, none⟩ = some (.slice ad dn cd) ∧ w'.cell? ⟨b, off + k * 3 + 2, none⟩ = some (.int .i64 ys) ∧
          Hid (OwnF w' w.heap.size (.slice vl k cl) m ∧ OwnB w' wr.heap.size (.slice a2 dn c2) yd ∧ Below wr.heap.size wr w')) := by
        intro X hX
        have hoX := ho.up hX
        rw [← hdn] at hoX
        refine (copyB_any yd _ X hoX hln).mono ?_
        rintro e w' ⟨v', rfl, ob, hu⟩
        obtain ⟨a2, cc, ev, _⟩ := (Octs.own ob ho.1).slice
        rw [← hdn] at ev
        subst ev
        have uu := up_trans hX hu
        exact ⟨a2, cc, rfl, (uu.cell (World.block_lt_of_cell? wr _ c0)).trans c0, (uu.cell (World.block_lt_of_cell? wr _ c1)).trans c1, (uu.cell (World.block_lt_of_cell? wr _ c2)).trans c2, HO.out.up uu, ob.mono hX.size, uu⟩
      have HY : Hid (okRow (.slice none 0 0, yi, yd, ys)) := ⟨ho.1, hln, hi1, hi2⟩
      have hsz2 : Hid (w.heap.size ≤ wr.heap.size) := up.out.size
      have HL : Hid (l.length * 40 ≤ 140737488351232) := hl
      have HA1 : Hid (∀ (w' : World) (o : Obj), OwnF w' w.heap.size (.slice vl k cl) m → OwnR (w'.alloc o) w.heap.size 110 3 (.slice vl k cl) (m.map frow)) := fun w' o h => (h.up (up_al (Below.refl _ _) o)).1
      have HA2 : Hid (∀ (w' : World) a2 cc, Rws 3 (w'.alloc (.cells #[.int .i64 yi, .slice a2 dn cc, .int .i64 ys] 110)) (.slice (some ⟨w'.heap.size, 0, none⟩) 1 1) [[.int .i64 yi, .slice a2 dn cc, .int .i64 ys]]) := by
        intro w' a2 cc
        have := Rws.made (sz := 3) w' 110 [[.int .i64 yi, .slice a2 dn cc, .int .i64 ys]] (by intro cs hcs; simp at hcs; subst hcs; rfl) (by simp [maxLen])
        simpa using this
      have HA3 : Hid (∀ a2 cc, ∀ cs ∈ [[Value.int .i64 yi, .slice a2 dn cc, .int .i64 ys]], ∀ u ∈ cs, u.oneCell' = true) := by
        intro a2 cc cs hcs u hu
        simp at hcs
        subst hcs
        simp at hu
        rcases hu with rfl | rfl | rfl <;> rfl
      have HA4 : Hid ((((m.map frow).length + 1) + ((m.map frow).length + 1) / 4 + 192) * 40 ≤ 281474976710656 ∧ (m.map frow).length + 1 ≤ maxLen) := by
        rw [List.length_map, HM.out.1]
        have h1 := HL.out
        have h2 := HK.out
        unfold maxLen
        constructor <;> omega
      have HA5 : Hid (∀ (w' : World) (o : Obj), Below wr.heap.size wr w' → w.heap.size ≤ (w'.alloc o).heap.size) := by
        intro w' o h
        have h1 := h.size
        have h2 := hsz2.out
        simp
        omega
      clear ho hln hi1 hi2 hdn hl
      go_upto_region 5 with fail
      go_region_held3 (fun w' => w'.cell? ⟨b, off + k * 3, none⟩ = some (.int .i64 yi) ∧ w'.cell? ⟨b, off + k * 3 + 1, none⟩ = some (.slice ad dn cd) ∧ w'.cell? ⟨b, off + k * 3 + 2, none⟩ = some (.int .i64 ys)) (first | exact ⟨y0, y1, y2⟩ | exact ⟨Lib.cell?_alloc_marked _ y0, Lib.cell?_alloc_marked _ y1, Lib.cell?_alloc_marked _ y2⟩ | exact ⟨t0, t1, t2⟩ | (simp [go_sem, c0, c1, c2]; done)) (first | (go_at_call 69; refine (HC.out _ (by repeat (first | exact Below.refl _ _ | apply up_dr | apply up_al))).mono ?_; rintro e w' ⟨a2, cc, rfl, y0, y1, y2, hs⟩) | (refine step_append_rows _ rfl (.tmp 11) (.tmp 29) 32 110 (.agg #[.int .i64 0, .slice none 0 0, .int .i64 0]) 3 40 rfl Tryz.underlying32 Tryz.info110 rfl (by decide) w.heap.size (.slice vl k cl) (m.map frow) rfl (HA1.out _ _ hs.out.1) _ [[.int .i64 yi, .slice a2 dn cc, .int .i64 ys]] rfl (HA2.out _ _ _) (HA3.out _ _) HA4.out.1 HA4.out.2 (HA5.out _ _ hs.out.2.2) ?_; intro v6 w6 o6 g6; have t0 := HG.out _ _ _ hs.out.1 g6 _ _ y0; have t1 := HG.out _ _ _ hs.out.1 g6 _ _ y1; have t2 := HG.out _ _ _ hs.out.1 g6 _ _ y2))
      all_goals
        obtain ⟨vl', cl', ev6, _, _⟩ := (Rws.own o6).len
        have hl6 : (m.map frow ++ [[Value.int .i64 yi, .slice a2 dn cc, .int .i64 ys]]).length = k + 1 := by
          rw [List.length_append, List.length_map, HM.out.1]
          rfl
        rw [hl6] at ev6
        subst ev6
        have HF6 : Hid (OwnF w6 w.heap.size (.slice vl' (k + 1) cl') (m ++ [(.slice a2 dn cc, yi, yd, ys)])) := hs.out.1.snoc (y := (.slice a2 dn cc, yi, yd, ys)) (hs.out.2.1.mono hsz2.out) HY.out (fun z hz => apart_new (HO.out.2.1 z hz).1 hs.out.2.1) _ o6 g6
        have HM6 : Hid ((m ++ [((.slice a2 dn cc, yi, yd, ys) : FRow)]).length = k + 1 ∧ (m ++ [((.slice a2 dn cc, yi, yd, ys) : FRow)]).map (·.2) = l.take (k + 1)) := by
          refine ⟨by rw [List.length_append, HM.out.1]; rfl, ?_⟩
          rw [HT.out, List.map_append, HM.out.2]
          rfl
        have HU6 : Hid (Below w.heap.size w w6) := by
          have uu := up_al (up_trans up.out hs.out.2.2) (.cells #[.int .i64 yi, .slice a2 dn cc, .int .i64 ys] 110)
          exact uu.grown g6 uu.size (fun j hj => (hs.out.1.1.2.lt j hj).1)
        have HN6 : Hid (k + 1 ≤ l.length) := HK.out
        have hk62 : (k : Int) ≤ 140737488351232 := by
          have h1 := HL.out
          have h2 := HK.out
          omega
        clear o6 g6 hl6 t0 t1 t2
        go_wp2_with fail
        exact ⟨⟨k + 1, _, vl', cl', HN6.out, by go_num, rfl, HM6, HF6, HU6⟩, by have := HN6.out; simp [intOf]; omega⟩
    · have hlt' : ¬ (k : Int) < (l.length : Int) := by omega
      obtain rfl : k = l.length := by omega
      rw [List.take_length] at HM
      go_wp2_with fail
      go_ret
      exact ⟨_, rfl, m, HM.out.2, HO.out, up.out⟩
end Go.Proofs.YtnchjlimkgbfpaaGreatDoor

namespace Go.Proofs.YtnchjlimkgbfpaaGreatDoor
open Go.RowKit
set_option linter.unusedVariables false
set_option maxRecDepth 20000
set_option linter.unusedSimpArgs false
set_option maxHeartbeats 8000000 in
set_option maxRecDepth 20000 in
theorem of_any (s : St) (v : Value) (w : World) (hv : StW w v s) (h1 : s.files.length * 40 ≤ 140737488351232) (h2 : s.names.length * 24 ≤ 140737488351232) (h3 : s.safe.length * 24 ≤ 140737488351232) :
    Calls Tryz.prog 7 #[v] w fun e w' => ∃ v', e = .returned v' ∧ OwnV w' w.heap.size v' s ∧ Below w.heap.size w w' := by
  obtain ⟨af, nf, cf, an, nn, cn, as', ns, cs', ev⟩ := hv.shape
  subst ev
  obtain ⟨vf, vn, vs, ev, hf, hn, hs, hi1, hi2⟩ := hv
  simp at ev
  obtain ⟨rfl, rfl, rfl⟩ := ev
  obtain ⟨wx, hwx⟩ : ∃ wx, wx = (w.alloc (.cells #[.int .i64 s.cap, .slice af nf cf, .slice an nn cn, .slice as' ns cs', .int .i64 s.next] 25)).alloc (.cells #[.int .i64 0, .slice none 0 0, .slice none 0 0, .slice none 0 0, .int .i64 0] 35) := ⟨_, rfl⟩
  have HX : Hid ((w.alloc (.cells #[.int .i64 s.cap, .slice af nf cf, .slice an nn cn, .slice as' ns cs', .int .i64 s.next] 25)).alloc (.cells #[.int .i64 0, .slice none 0 0, .slice none 0 0, .slice none 0 0, .int .i64 0] 35) = wx) := hwx.symm
  have b0 : wx.heap[w.heap.size]? = some (.cells #[.int .i64 s.cap, .slice af nf cf, .slice an nn cn, .slice as' ns cs', .int .i64 s.next] 25) := by rw [hwx]; exact blk_two0 w _ _
  have b1 : wx.heap[w.heap.size + 1]? = some (.cells #[.int .i64 0, .slice none 0 0, .slice none 0 0, .slice none 0 0, .int .i64 0] 35) := by rw [hwx]; exact blk_two1 w _ _
  have up : Hid (Below w.heap.size w wx) := by rw [hwx]; exact up_al (up_al (Below.refl _ _) _) _
  have HB : Hid (wx.heap[w.heap.size]? = some (.cells #[.int .i64 s.cap, .slice af nf cf, .slice an nn cn, .slice as' ns cs', .int .i64 s.next] 25) ∧ wx.heap[w.heap.size + 1]? = some (.cells #[.int .i64 0, .slice none 0 0, .slice none 0 0, .slice none 0 0, .int .i64 0] 35)) := ⟨b0, b1⟩
  have HI : Hid (In64 s.cap ∧ In64 s.next) := ⟨hi1, hi2⟩
  have HF : Hid (∀ X, Below wx.heap.size wx X → Calls Tryz.prog 29 #[.slice af nf cf] X fun e w' => ∃ a1 n1 c1, e = .returned (.slice a1 n1 c1) ∧ w'.cell? ⟨w.heap.size, 0, none⟩ = some (.int .i64 s.cap) ∧ w'.cell? ⟨w.heap.size, 1, none⟩ = some (.slice af nf cf) ∧ w'.cell? ⟨w.heap.size, 2, none⟩ = some (.slice an nn cn) ∧ w'.cell? ⟨w.heap.size, 3, none⟩ = some (.slice as' ns cs') ∧ w'.cell? ⟨w.heap.size, 4, none⟩ = some (.int .i64 s.next) ∧ w'.cell? ⟨w.heap.size + 1, 0, none⟩ = some (.int .i64 0) ∧ w'.cell? ⟨w.heap.size + 1, 1, none⟩ = some (.slice none 0 0) ∧ w'.cell? ⟨w.heap.size + 1, 2, none⟩ = some (.slice none 0 0) ∧ w'.cell? ⟨w.heap.size + 1, 3, none⟩ = some (.slice none 0 0) ∧ w'.cell? ⟨w.heap.size + 1, 4, none⟩ = some (.int .i64 0) ∧ w'.frozen? ⟨w.heap.size + 1, 0, none⟩ = false ∧ w'.frozen? ⟨w.heap.size + 1, 1, none⟩ = false ∧ w'.frozen? ⟨w.heap.size + 1, 2, none⟩ = false ∧ w'.frozen? ⟨w.heap.size + 1, 3, none⟩ = false ∧ w'.frozen? ⟨w.heap.size + 1, 4, none⟩ = false ∧ Hid ((∃ m : List FRow, m.map (·.2) = s.files ∧ OwnF w' X.heap.size (.slice a1 n1 c1) m) ∧ wx.heap.size ≤ X.heap.size) ∧ Hid (Below X.heap.size X w') ∧ Hid (Below wx.heap.size wx w')) := by
    intro X hX
    refine (some_any s.files _ X (hf.up (up_trans up.out hX)) h1).mono ?_
    rintro e w' ⟨v', rfl, m, hm, of, hu⟩
    obtain ⟨a1, c1, e1, _, _⟩ := (FilesW.own of).len
    subst e1
    have k0 := blk_up HB.out.1 (up_trans hX hu)
    have k1 := blk_up HB.out.2 (up_trans hX hu)
    exact ⟨a1, _, c1, rfl, blk_cell k0 0 _ rfl, blk_cell k0 1 _ rfl, blk_cell k0 2 _ rfl, blk_cell k0 3 _ rfl, blk_cell k0 4 _ rfl, blk_cell k1 0 _ rfl, blk_cell k1 1 _ rfl, blk_cell k1 2 _ rfl, blk_cell k1 3 _ rfl, blk_cell k1 4 _ rfl, blk_frozen k1 0, blk_frozen k1 1, blk_frozen k1 2, blk_frozen k1 3, blk_frozen k1 4, ⟨⟨m, hm, of⟩, hX.size⟩, hu, up_trans hX hu⟩
  have HNm : Hid (∀ X, Below wx.heap.size wx X → Calls Tryz.prog 30 #[.slice an nn cn] X fun e w' => ∃ a2 n2 c2, e = .returned (.slice a2 n2 c2) ∧ w'.cell? ⟨w.heap.size, 0, none⟩ = some (.int .i64 s.cap) ∧ w'.cell? ⟨w.heap.size, 1, none⟩ = some (.slice af nf cf) ∧ w'.cell? ⟨w.heap.size, 2, none⟩ = some (.slice an nn cn) ∧ w'.cell? ⟨w.heap.size, 3, none⟩ = some (.slice as' ns cs') ∧ w'.cell? ⟨w.heap.size, 4, none⟩ = some (.int .i64 s.next) ∧ w'.cell? ⟨w.heap.size + 1, 0, none⟩ = some (.int .i64 0) ∧ w'.cell? ⟨w.heap.size + 1, 1, none⟩ = some (.slice none 0 0) ∧ w'.cell? ⟨w.heap.size + 1, 2, none⟩ = some (.slice none 0 0) ∧ w'.cell? ⟨w.heap.size + 1, 3, none⟩ = some (.slice none 0 0) ∧ w'.cell? ⟨w.heap.size + 1, 4, none⟩ = some (.int .i64 0) ∧ w'.frozen? ⟨w.heap.size + 1, 0, none⟩ = false ∧ w'.frozen? ⟨w.heap.size + 1, 1, none⟩ = false ∧ w'.frozen? ⟨w.heap.size + 1, 2, none⟩ = false ∧ w'.frozen? ⟨w.heap.size + 1, 3, none⟩ = false ∧ w'.frozen? ⟨w.heap.size + 1, 4, none⟩ = false ∧ Hid (OwnN w' X.heap.size 146 (.slice a2 n2 c2) s.names ∧ wx.heap.size ≤ X.heap.size) ∧ Hid (Below X.heap.size X w') ∧ Hid (Below wx.heap.size wx w')) := by
    intro X hX
    refine (names_any s.names _ X (hn.up (up_trans up.out hX)) h2).mono ?_
    rintro e w' ⟨v', rfl, on, hu⟩
    obtain ⟨a1, c1, e1, _, _⟩ := (NamesW.own on).len
    subst e1
    have k0 := blk_up HB.out.1 (up_trans hX hu)
    have k1 := blk_up HB.out.2 (up_trans hX hu)
    exact ⟨a1, _, c1, rfl, blk_cell k0 0 _ rfl, blk_cell k0 1 _ rfl, blk_cell k0 2 _ rfl, blk_cell k0 3 _ rfl, blk_cell k0 4 _ rfl, blk_cell k1 0 _ rfl, blk_cell k1 1 _ rfl, blk_cell k1 2 _ rfl, blk_cell k1 3 _ rfl, blk_cell k1 4 _ rfl, blk_frozen k1 0, blk_frozen k1 1, blk_frozen k1 2, blk_frozen k1 3, blk_frozen k1 4, ⟨on, hX.size⟩, hu, up_trans hX hu⟩
  have HSf : Hid (∀ X, Below wx.heap.size wx X → Calls Tryz.prog 30 #[.slice as' ns cs'] X fun e w' => ∃ a3 n3 c3, e = .returned (.slice a3 n3 c3) ∧ w'.cell? ⟨w.heap.size, 0, none⟩ = some (.int .i64 s.cap) ∧ w'.cell? ⟨w.heap.size, 1, none⟩ = some (.slice af nf cf) ∧ w'.cell? ⟨w.heap.size, 2, none⟩ = some (.slice an nn cn) ∧ w'.cell? ⟨w.heap.size, 3, none⟩ = some (.slice as' ns cs') ∧ w'.cell? ⟨w.heap.size, 4, none⟩ = some (.int .i64 s.next) ∧ w'.cell? ⟨w.heap.size + 1, 0, none⟩ = some (.int .i64 0) ∧ w'.cell? ⟨w.heap.size + 1, 1, none⟩ = some (.slice none 0 0) ∧ w'.cell? ⟨w.heap.size + 1, 2, none⟩ = some (.slice none 0 0) ∧ w'.cell? ⟨w.heap.size + 1, 3, none⟩ = some (.slice none 0 0) ∧ w'.cell? ⟨w.heap.size + 1, 4, none⟩ = some (.int .i64 0) ∧ w'.frozen? ⟨w.heap.size + 1, 0, none⟩ = false ∧ w'.frozen? ⟨w.heap.size + 1, 1, none⟩ = false ∧ w'.frozen? ⟨w.heap.size + 1, 2, none⟩ = false ∧ w'.frozen? ⟨w.heap.size + 1, 3, none⟩ = false ∧ w'.frozen? ⟨w.heap.size + 1, 4, none⟩ = false ∧ Hid (OwnN w' X.heap.size 146 (.slice a3 n3 c3) s.safe ∧ wx.heap.size ≤ X.heap.size) ∧ Hid (Below X.heap.size X w') ∧ Hid (Below wx.heap.size wx w')) := by
    intro X hX
    refine (names_any s.safe _ X (hs.up (up_trans up.out hX)) h3).mono ?_
    rintro e w' ⟨v', rfl, on, hu⟩
    obtain ⟨a1, c1, e1, _, _⟩ := (NamesW.own on).len
    subst e1
    have k0 := blk_up HB.out.1 (up_trans hX hu)
    have k1 := blk_up HB.out.2 (up_trans hX hu)
    exact ⟨a1, _, c1, rfl, blk_cell k0 0 _ rfl, blk_cell k0 1 _ rfl, blk_cell k0 2 _ rfl, blk_cell k0 3 _ rfl, blk_cell k0 4 _ rfl, blk_cell k1 0 _ rfl, blk_cell k1 1 _ rfl, blk_cell k1 2 _ rfl, blk_cell k1 3 _ rfl, blk_cell k1 4 _ rfl, blk_frozen k1 0, blk_frozen k1 1, blk_frozen k1 2, blk_frozen k1 3, blk_frozen k1 4, ⟨on, hX.size⟩, hu, up_trans hX hu⟩
  have U0 : Hid (Below wx.heap.size wx wx.drew) := up_dr (Below.refl _ _)
  clear hwx hf hn hs hi1 hi2 h1 h2 h3
  go_enter Tryz.func7, Tryz.ntmps7
  go_upto_region 1 with fail
  rw [HX.out]
  clear HX
  have q0 := blk_cell b0 0 _ rfl
  have q1 := blk_cell b0 1 _ rfl
  have q2 := blk_cell b0 2 _ rfl
  have q3 := blk_cell b0 3 _ rfl
  have q4 := blk_cell b0 4 _ rfl
  have p0 := blk_cell b1 0 _ rfl
  have p1 := blk_cell b1 1 _ rfl
  have p2 := blk_cell b1 2 _ rfl
  have p3 := blk_cell b1 3 _ rfl
  have p4 := blk_cell b1 4 _ rfl
  clear b0 b1
  go_region_held3 (fun w' => w'.cell? ⟨w.heap.size, 0, none⟩ = some (.int .i64 s.cap) ∧ w'.cell? ⟨w.heap.size, 1, none⟩ = some (.slice af nf cf) ∧ w'.cell? ⟨w.heap.size, 2, none⟩ = some (.slice an nn cn) ∧ w'.cell? ⟨w.heap.size, 3, none⟩ = some (.slice as' ns cs') ∧ w'.cell? ⟨w.heap.size, 4, none⟩ = some (.int .i64 s.next)) (first | with_reducible exact ⟨y0, y1, y2, y3, y4⟩ | with_reducible exact ⟨q0, q1, q2, q3, q4⟩ | (simp [go_sem, y0, y1, y2, y3, y4]; done) | (simp [go_sem, q0, q1, q2, q3, q4]; done)) (first | (go_at_call 29; with_reducible refine (HF.out _ (by first | exact ub.out | exact U0.out)).mono ?_; rintro e w' ⟨a1, n1, c1, rfl, y0, y1, y2, y3, y4, x0, x1, x2, x3, x4, f0, f1, f2, f3, f4, of, uf, ub⟩) | (go_at_call 30; with_reducible refine (HNm.out _ (by first | exact ub.out | exact U0.out)).mono ?_; rintro e w' ⟨a2, n2, c2, rfl, y0, y1, y2, y3, y4, x0, x1, x2, x3, x4, f0, f1, f2, f3, f4, on, un, ub⟩) | (go_at_call 30; with_reducible refine (HSf.out _ (by first | exact ub.out | exact U0.out)).mono ?_; rintro e w' ⟨a3, n3, c3, rfl, y0, y1, y2, y3, y4, x0, x1, x2, x3, x4, f0, f1, f2, f3, f4, os, us, ub⟩))
  all_goals
    have HP : Hid (OwnV w' w.heap.size (.agg #[.int .i64 s.cap, .slice a1 n1 c1, .slice a2 n2 c2, .slice a3 n3 c3, .int .i64 s.next]) s) := by
      obtain ⟨⟨m, hm, hf⟩, hsz⟩ := of.out
      have kf := (hf.mono hsz).mono up.out.size
      have kn := (on.out.1.mono on.out.2).mono up.out.size
      have ks := (os.out.1.mono os.out.2).mono up.out.size
      have af' : OwnF w' w.heap.size (.slice a1 n1 c1) m := by first | exact kf | exact kf.up un.out | exact kf.up us.out | exact kf.up (up_trans un.out us.out) | exact kf.up (up_trans us.out un.out)
      have an' : OwnN w' w.heap.size 146 (.slice a2 n2 c2) s.names := by first | exact kn | exact kn.up uf.out | exact kn.up us.out | exact kn.up (up_trans uf.out us.out) | exact kn.up (up_trans us.out uf.out)
      have as'' : OwnN w' w.heap.size 146 (.slice a3 n3 c3) s.safe := by first | exact ks | exact ks.up uf.out | exact ks.up un.out | exact ks.up (up_trans uf.out un.out) | exact ks.up (up_trans un.out uf.out)
      have ap : Apart (.slice a2 n2 c2) (.slice a3 n3 c3) := by
        first | exact apart_new on.out.1.2.2 os.out.1.2.2 | exact apart_new on.out.1.2.2 (os.out.1.mono uf.out.size).2.2 | exact (apart_new os.out.1.2.2 on.out.1.2.2).symm | exact (apart_new os.out.1.2.2 (on.out.1.mono uf.out.size).2.2).symm
      exact ⟨_, _, _, m, rfl, hm, af', an', as'', ap, HI.out.1, HI.out.2⟩
    have hb1 := blk_up HB.out.2 ub.out
    have HQ : Hid ((HP.out.put hb1).2 = (HP.out.put hb1).2) := rfl
    have HV5 : Hid (OwnV (set5 w' (w.heap.size + 1) (.int .i64 s.cap) (.slice a1 n1 c1) (.slice a2 n2 c2) (.slice a3 n3 c3) (.int .i64 s.next)) w.heap.size (.agg #[.int .i64 s.cap, .slice a1 n1 c1, .slice a2 n2 c2, .slice a3 n3 c3, .int .i64 s.next]) s) := (HP.out.put hb1).2
    have b5 := set5_blk hb1 (.int .i64 s.cap) (.slice a1 n1 c1) (.slice a2 n2 c2) (.slice a3 n3 c3) (.int .i64 s.next)
    have HU : Hid (Below w.heap.size w w') := up_trans up.out ub.out
    clear HQ
    go_wp2_with fail
    refine bodyPost_ret (results_state rfl _ _ rfl b5) rfl ?_
    refine ⟨_, rfl, HV5.out, ?_⟩
    exact HU.out.grown (set5_grown _ _ _ _ _ _ _) HU.out.size (fun j hj => by injection hj with hj; rw [← hj]; omega)
end Go.Proofs.YtnchjlimkgbfpaaGreatDoor
