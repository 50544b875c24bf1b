/- The texts R6, R7, W1, T1, T4, X1, HLook, HBeg, in this order. -/
import Derived.Test.YtnchjlimkgbfpaaGreatDoorJ17
import Derived.Lib.SlBytesConst
import Derived.Deep.QuietTactic
import Derived.BigQuiet

namespace Go.Proofs.YtnchjlimkgbfpaaGreatDoor
open Go.RowKit
set_option linter.unusedVariables false
set_option maxRecDepth 20000
set_option linter.unusedSimpArgs false
theorem Rws.taken {sz : Nat} {w : World} {a : Option Addr} {n c : Nat} {css : List (List Value)} (h : Rws sz w (.slice a n c) css) (k : Nat) (hk : k ≤ css.length) : Rws sz w (.slice a k c) (css.take k) := by
  obtain ⟨h1, a', c', e, h2, h3, h4, h5⟩ := h
  injection e with e1 e2 e3
  subst e1
  subst e3
  have hl : (css.take k).length = k := by rw [List.length_take]; omega
  refine ⟨fun cs hcs => h1 cs (List.mem_of_mem_take hcs), a, c, by rw [hl], by omega, h3, h4, ?_⟩
  intro hne
  obtain ⟨b, off, e, hc⟩ := h5 (by intro q; rw [q] at hne; simp at hne)
  refine ⟨b, off, e, fun j cs hj i u hi => hc j cs ?_ i u hi⟩
  rw [List.getElem?_take] at hj
  split at hj
  · exact hj
  · cases hj
theorem ActsW.taken {w : World} {a : Option Addr} {n c : Nat} {l : List Ac} (h : ActsW w (.slice a n c) l) (k : Nat) (hk : k ≤ l.length) : ActsW w (.slice a k c) (l.take k) := by
  obtain ⟨m, rfl, h2, h3⟩ := h
  rw [List.length_map] at hk
  refine ⟨m.take k, by rw [List.map_take], ?_, fun y hy => h3 y (List.mem_of_mem_take hy)⟩
  rw [List.map_take]
  exact h2.taken k (by rw [List.length_map]; exact hk)
end Go.Proofs.YtnchjlimkgbfpaaGreatDoor

namespace Go.Proofs.YtnchjlimkgbfpaaGreatDoor
open Go.RowKit
set_option linter.unusedVariables false
set_option maxRecDepth 20000
set_option linter.unusedSimpArgs false
theorem OwnS.shape {w : World} {base B : Nat} {s : St} (h : OwnS w base B s) : ∃ af nf cf an nn cn as' ns cs', w.heap[B]? = some (.cells #[.int .i64 s.cap, .slice af nf cf, .slice an nn cn, .slice as' ns cs', .int .i64 s.next] 35) ∧ OwnV w base (.agg #[.int .i64 s.cap, .slice af nf cf, .slice an nn cn, .slice as' ns cs', .int .i64 s.next]) s := by
  obtain ⟨vf, vn, vs, hb, ov⟩ := h.take
  obtain ⟨a4, n4, c4, a5, n5, c5, a7, n7, c7, ev4⟩ := ov.shape
  simp at ev4
  obtain ⟨rfl, rfl, rfl⟩ := ev4
  exact ⟨_, _, _, _, _, _, _, _, _, hb, ov⟩
theorem OwnS.lt {w : World} {base B : Nat} {s : St} (h : OwnS w base B s) : B < w.heap.size := by
  obtain ⟨_, _, _, _, _, hb, _⟩ := h
  exact blk_lt hb
def sA : St := ⟨99, [], [], [], 1⟩
def sC : St := ⟨99, [], [], [], 2⟩
theorem al1 : newP 99 = (sA, 0) := by kernel_rfl
end Go.Proofs.YtnchjlimkgbfpaaGreatDoor

namespace Go.Proofs.YtnchjlimkgbfpaaGreatDoor
open Go.RowKit
set_option linter.unusedVariables false
set_option maxRecDepth 20000
theorem go_good : ∀ (l : List Ac) {s : St}, Good s → Good (goP s l).1 ∧ 0 ≤ (goP s l).2.1 ∧ (goP s l).2.1 ≤ (l.length : Int)
  | [], s, h => ⟨h, by simp [goP], by simp [goP]⟩
  | a :: l, s, h => by
    have hg := act_good h a
    unfold goP
    by_cases c : (actP s a).2 = 0
    · rw [if_pos c]
      have ih := go_good l hg
      refine ⟨ih.1, ?_, ?_⟩
      · show 0 ≤ (goP (actP s a).1 l).2.1 + 1
        omega
      · show (goP (actP s a).1 l).2.1 + 1 ≤ ((a :: l).length : Int)
        simp only [List.length_cons]
        omega
    · rw [if_neg c]
      exact ⟨hg, by simp, by simp only [List.length_cons]; omega⟩
theorem run_good {s : St} (h : Good s) (l : List Ac) : Good (runP s l).1 ∧ 0 ≤ (runP s l).2.1 ∧ (runP s l).2.1 ≤ (l.length : Int) := by
  unfold runP
  rw [good_check h]
  exact go_good l h
theorem StW.form {w : World} {v : Value} {s : St} (h : StW w v s) : ∃ af cf an cn as' cs', v = .agg #[.int .i64 s.cap, .slice af s.files.length cf, .slice an s.names.length cn, .slice as' s.safe.length cs', .int .i64 s.next] := by
  obtain ⟨vf, vn, vs, rfl, hf, hn, hs, _, _⟩ := h
  obtain ⟨af, cf, rfl, _, _⟩ := hf.len
  obtain ⟨an, cn, rfl, _, _⟩ := hn.len
  obtain ⟨as', cs', rfl, _, _⟩ := hs.len
  exact ⟨_, _, _, _, _, _, rfl⟩
end Go.Proofs.YtnchjlimkgbfpaaGreatDoor

namespace Go.Proofs.YtnchjlimkgbfpaaGreatDoor
open Go.RowKit
set_option linter.unusedVariables false
set_option maxRecDepth 20000
set_option linter.unusedSimpArgs false
end Go.Proofs.YtnchjlimkgbfpaaGreatDoor

namespace Go.Proofs.YtnchjlimkgbfpaaGreatDoor
open Go.RowKit
set_option linter.unusedVariables false
set_option maxRecDepth 20000
set_option linter.unusedSimpArgs false
def TextsW (w : World) (v : Value) (l : List (List Int)) : Prop := Rws 1 w v (l.map srow)
theorem TextsW.up {w w' : World} {v : Value} {l : List (List Int)} (h : TextsW w v l) (hb : Below w.heap.size w w') : TextsW w' v l := Rws.up h hb
theorem TextsW.len {w : World} {v : Value} {l : List (List Int)} (h : TextsW w v l) : ∃ a cap, v = .slice a l.length cap ∧ l.length ≤ cap ∧ cap ≤ maxLen := by
  obtain ⟨a, cap, e, h1, h2⟩ := Rws.len h
  rw [List.length_map] at e h1
  exact ⟨a, cap, e, h1, h2⟩
theorem TextsW.at {w : World} {v : Value} {l : List (List Int)} (h : TextsW w v l) (k : Nat) (hk : k < l.length) : ∃ b off cap, v = .slice (some ⟨b, off, none⟩) l.length cap ∧ w.cell? ⟨b, off + k, none⟩ = some (.string (strOfNums (l.getD k []))) := by
  obtain ⟨b, off, cap, e, _, _, hc⟩ := Rws.at h k (by rw [List.length_map]; exact hk)
  rw [List.length_map] at e
  have hr : (l.map srow).getD k [] = [.string (strOfNums (l.getD k []))] := by simp [List.getD, hk, srow]
  rw [hr] at hc
  have c0 := hc 0 _ rfl
  rw [Nat.mul_one, Nat.add_zero] at c0
  exact ⟨b, off, cap, e, c0⟩
end Go.Proofs.YtnchjlimkgbfpaaGreatDoor

namespace Go.Proofs.YtnchjlimkgbfpaaGreatDoor
open Go.RowKit
set_option linter.unusedVariables false
set_option maxRecDepth 20000
theorem rank_at {A : Type} {p : A → Bool} {l : List A} {i : Nat} (hi : i < l.length) (h1 : ∀ j (hj : j < l.length), j < i → p l[j] = true) (h2 : p l[i] = false) : rankOf p l = i := by
  have e : l = l.take i ++ l[i] :: l.drop (i + 1) := by
    rw [List.getElem_cons_drop, List.take_append_drop]
  unfold rankOf
  rw [e, takeWhile_all]
  · rw [List.takeWhile_cons_of_neg (by rw [h2]; decide), List.append_nil, List.length_take]
    omega
  · intro x hx
    obtain ⟨j, hj, rfl⟩ := List.getElem_of_mem hx
    rw [List.length_take] at hj
    rw [List.getElem_take]
    exact h1 j (by omega) (by omega)
theorem rankN_at {l : List (List Int × Int)} (h : l.Pairwise fun a b => lessL a.1 b.1 = true) {i : Nat} (hi : i < l.length) : rankN l (l[i]).1 = i := by
  rw [List.pairwise_iff_getElem] at h
  exact rank_at hi (fun j hj hji => h j i hj hi hji) (lessL_self _)
theorem rankF_at {l : List (Int × List Int × Int)} (h : l.Pairwise fun a b => a.1 < b.1) {i : Nat} (hi : i < l.length) : rankF l (l[i]).1 = i := by
  rw [List.pairwise_iff_getElem] at h
  exact rank_at hi (fun j hj hji => by simpa using h j i hj hi hji) (by simp)
theorem named {s : St} (h : Good s) {i : Nat} (hi : i < s.names.length) : ∃ k, ∃ hk : k < s.files.length, (s.files[k]).1 = (s.names[i]).2 ∧ hasF s (s.names[i]).1 = true ∧ idxF s (s.names[i]).1 = k := by
  have hm := h.names.ids _ (List.getElem_mem hi)
  obtain ⟨f, hf, e⟩ := List.mem_map.1 hm
  obtain ⟨k, hk, rfl⟩ := List.getElem_of_mem hf
  have hr := rankN_at h.names.rise hi
  have hid : idN s (s.names[i]).1 = (s.names[i]).2 := by
    unfold idN
    rw [hr]
    simp [List.getD, hi]
  have hrk : rankF s.files (s.names[i]).2 = k := by
    rw [← e]
    exact rankF_at h.rise hk
  refine ⟨k, hk, e, ?_, ?_⟩
  · unfold hasF
    rw [hid]
    unfold thereN thereF
    rw [hr, hrk]
    simp [List.getD, hi, hk, e]
  · unfold idxF
    rw [hid, hrk]
end Go.Proofs.YtnchjlimkgbfpaaGreatDoor

namespace Go.Proofs.YtnchjlimkgbfpaaGreatDoor
open Go.RowKit
set_option linter.unusedVariables false
set_option maxRecDepth 20000
set_option linter.unusedSimpArgs false
def At (s : St) (x : List Int) (id : Int) (d : List Int) (n : Int) : Prop := (x, id) ∈ s.names ∧ (id, d, n) ∈ s.files
def SafeAt (s : St) (x : List Int) (id : Int) (d : List Int) (n : Int) : Prop := (x, id) ∈ s.safe ∧ (id, d, n) ∈ s.files
theorem at_all {s : St} (h : Good s) {x : List Int} {id : Int} {d : List Int} {n : Int} (ha : At s x id d n) :
    thereN s.names x = true ∧ idN s x = id ∧ hasF s x = true ∧ ∃ hk : idxF s x < s.files.length, s.files[idxF s x] = (id, d, n) := by
  obtain ⟨i, hi, ei⟩ := List.getElem_of_mem ha.1
  obtain ⟨k, hk, e, hh, hx⟩ := named h hi
  rw [ei] at e hh hx
  simp only at e hh hx
  obtain ⟨j, hj, ej⟩ := List.getElem_of_mem ha.2
  have hjk : j = k := by
    have h1 := rankF_at h.rise hj
    have h2 := rankF_at h.rise hk
    rw [ej] at h1
    rw [e] at h2
    simp only at h1 h2
    omega
  subst hjk
  have ht : thereN s.names x = true := by
    unfold hasF at hh
    rw [Bool.and_eq_true] at hh
    exact hh.1
  refine ⟨ht, ?_, hh, by rw [hx]; exact hj, ?_⟩
  · unfold idN
    have hr := rankN_at h.names.rise hi
    rw [ei] at hr
    simp only at hr
    rw [hr]
    simp [List.getD, hi, ei]
  · simp only [hx]
    exact ej
theorem at_read {s : St} (h : Good s) {x : List Int} {id : Int} {d : List Int} {n : Int} (ha : At s x id d n) : readP s x = (d, 0) := by
  obtain ⟨_, _, h3, hk, e⟩ := at_all h ha
  unfold readP
  rw [good_check h, h3]
  simp only [if_true]
  unfold fileD
  simp [List.getD, hk, e]
theorem mem_swept {s : St} {f : Int × List Int × Int} (h : f ∈ s.files) (k : (∃ x, (x, f.1) ∈ s.names) ∨ ∃ x, (x, f.1) ∈ s.safe) : f ∈ (sweptOf s).files := by
  unfold sweptOf
  simp only
  rw [List.mem_filter]
  refine ⟨h, ?_⟩
  rw [Bool.or_eq_true]
  unfold standsOf
  rcases k with ⟨x, k⟩ | ⟨x, k⟩
  · exact .inl (List.any_eq_true.2 ⟨_, k, by simp⟩)
  · exact .inr (List.any_eq_true.2 ⟨_, k, by simp⟩)
theorem create_ok {s : St} {x : List Int} (hm : mayOf x = true) (ht : thereN s.names x = false) (hf : s.files.length < 256) (hn : s.next ≠ 2147483647) :
    createP s x = ({ s with names := insN s.names (rankN s.names x) (x, s.next), files := s.files ++ [(s.next, [], 0)], next := s.next + 1 }, 0) := by
  unfold createP
  rw [hm, ht]
  simp only [if_true, Bool.false_eq_true, if_false]
  rw [if_neg (by omega)]
theorem mem_ins {l : List (List Int × Int)} {i : Nat} {y z : List Int × Int} : z ∈ insN l i y ↔ z = y ∨ z ∈ l := by
  unfold insN
  rw [List.mem_append, List.mem_cons]
  constructor
  · rintro (h | h | h)
    · exact .inr (List.mem_of_mem_take h)
    · exact .inl h
    · exact .inr (List.mem_of_mem_drop h)
  · rintro (h | h)
    · exact .inr (.inl h)
    · rw [← List.take_append_drop i l, List.mem_append] at h
      rcases h with h | h
      · exact .inl h
      · exact .inr (.inr h)
theorem create_new {s t : St} {x : List Int} (h : createP s x = (t, 0)) : At t x s.next [] 0 := by
  unfold createP at h
  split at h
  · split at h
    · simp at h
    · split at h
      · simp at h
      · simp only [Prod.mk.injEq, and_true] at h
        subst h
        exact ⟨mem_ins.2 (.inl rfl), List.mem_append_right _ (by simp)⟩
  · simp at h
theorem create_at {s t : St} {x y : List Int} {id : Int} {d : List Int} {n : Int} (h : createP s x = (t, 0)) (ha : At s y id d n) : At t y id d n := by
  unfold createP at h
  split at h
  · split at h
    · simp at h
    · split at h
      · simp at h
      · simp only [Prod.mk.injEq, and_true] at h
        subst h
        exact ⟨mem_ins.2 (.inr ha.1), List.mem_append_left _ ha.2⟩
  · simp at h
theorem create_safe {s t : St} {x y : List Int} {id : Int} {d : List Int} {n : Int} (h : createP s x = (t, 0)) (ha : SafeAt s y id d n) : SafeAt t y id d n := by
  unfold createP at h
  split at h
  · split at h
    · simp at h
    · split at h
      · simp at h
      · simp only [Prod.mk.injEq, and_true] at h
        subst h
        exact ⟨ha.1, List.mem_append_left _ ha.2⟩
  · simp at h
theorem mem_set_ne {l : List (Int × List Int × Int)} {k : Nat} (hk : k < l.length) {v f : Int × List Int × Int} (hf : f ∈ l) (hne : f ≠ l[k]) : f ∈ l.set k v := by
  obtain ⟨j, hj, e⟩ := List.getElem_of_mem hf
  have hjk : k ≠ j := fun q => hne (by subst q; exact e.symm)
  refine List.mem_iff_getElem.2 ⟨j, by simpa using hj, ?_⟩
  rw [List.getElem_set_ne hjk]
  exact e
theorem extend_ok {s : St} (h : Good s) {x : List Int} {id : Int} {d : List Int} {n : Int} (ha : At s x id d n) {data : List Int} (hr : (data.length : Int) ≤ s.cap - usedOf s.files) :
    extendP s x data = ({ s with files := s.files.set (idxF s x) (id, d ++ data, n) }, 0) := by
  obtain ⟨_, _, h3, hk, e⟩ := at_all h ha
  have hfd : fileD s (idxF s x) = (id, d, n) := by unfold fileD; simp [List.getD, hk, e]
  unfold extendP
  rw [h3, hfd]
  simp only [if_true]
  rw [if_neg (by omega)]
theorem extend_at {s t : St} (h : Good s) {x : List Int} {id : Int} {d : List Int} {n : Int} (ha : At s x id d n) {data : List Int} (he : extendP s x data = (t, 0)) : At t x id (d ++ data) n := by
  obtain ⟨_, _, h3, hk, e⟩ := at_all h ha
  have hfd : fileD s (idxF s x) = (id, d, n) := by unfold fileD; simp [List.getD, hk, e]
  unfold extendP at he
  rw [h3, hfd] at he
  simp only [if_true] at he
  split at he
  · simp at he
  · simp only [Prod.mk.injEq, and_true] at he
    subst he
    exact ⟨ha.1, List.mem_iff_getElem.2 ⟨idxF s x, by simpa using hk, by simp⟩⟩
theorem extend_other {s t : St} (h : Good s) {x : List Int} {id : Int} {d : List Int} {n : Int} (ha : At s x id d n) {data : List Int} (he : extendP s x data = (t, 0)) :
    t.names = s.names ∧ t.safe = s.safe ∧ ∀ f ∈ s.files, f.1 ≠ id → f ∈ t.files := by
  obtain ⟨_, _, h3, hk, e⟩ := at_all h ha
  have hfd : fileD s (idxF s x) = (id, d, n) := by unfold fileD; simp [List.getD, hk, e]
  unfold extendP at he
  rw [h3, hfd] at he
  simp only [if_true] at he
  split at he
  · simp at he
  · simp only [Prod.mk.injEq, and_true] at he
    subst he
    exact ⟨rfl, rfl, fun f hf hne => mem_set_ne hk hf (fun q => hne (by rw [q, e]))⟩
theorem sync_ok {s : St} (h : Good s) {x : List Int} {id : Int} {d : List Int} {n : Int} (ha : At s x id d n) :
    ∃ t, syncP s x = (t, 0) ∧ At t x id d d.length ∧ t.names = s.names ∧ t.safe = s.safe ∧ (∀ f ∈ s.files, f.1 ≠ id → f ∈ t.files) ∧ t.cap = s.cap ∧ t.next = s.next ∧ t.files.length = s.files.length ∧ usedOf t.files = usedOf s.files := by
  obtain ⟨_, _, h3, hk, e⟩ := at_all h ha
  have hfd : fileD s (idxF s x) = (id, d, n) := by unfold fileD; simp [List.getD, hk, e]
  unfold syncP
  rw [h3, hfd]
  simp only [if_true]
  refine ⟨_, rfl, ⟨ha.1, List.mem_iff_getElem.2 ⟨idxF s x, by simpa using hk, by simp⟩⟩, rfl, rfl, fun f hf hne => mem_set_ne hk hf (fun q => hne (by rw [q, e])), rfl, rfl, by simp, ?_⟩
  unfold usedOf
  simp only
  rw [List.map_set]
  congr 1
  refine List.ext_getElem? fun j => ?_
  rw [List.getElem?_set]
  split
  · rename_i q
    subst q
    simp [hk, e]
  · rfl
theorem mem_erase_ne {l : List (List Int × Int)} {k : Nat} (hk : k < l.length) {f : List Int × Int} (hf : f ∈ l) (hne : f ≠ l[k]) : f ∈ l.eraseIdx k := by
  obtain ⟨j, hj, e⟩ := List.getElem_of_mem hf
  have hjk : j ≠ k := fun q => hne (by subst q; exact e.symm)
  exact List.mem_eraseIdx_iff_getElem.2 ⟨j, hj, hjk, e⟩
theorem name_at {s : St} (h : Good s) {x : List Int} {id : Int} (ha : (x, id) ∈ s.names) : ∃ hk : rankN s.names x < s.names.length, s.names[rankN s.names x] = (x, id) := by
  obtain ⟨i, hi, ei⟩ := List.getElem_of_mem ha
  have hr := rankN_at h.names.rise hi
  rw [ei] at hr
  simp only at hr
  exact ⟨by rw [hr]; exact hi, by simp only [hr]; exact ei⟩
theorem mem_renamed {l : List (List Int × Int)} {tn : List Int} {id : Int} : (tn, id) ∈ renamed l tn id := by
  unfold renamed
  split
  · rename_i h
    unfold thereN at h
    simp only [Bool.and_eq_true, decide_eq_true_eq] at h
    refine List.mem_iff_getElem.2 ⟨rankN l tn, by simpa using h.1, ?_⟩
    have h2 := h.2
    simp only [List.getElem_set_self]
    rw [h2]
  · exact mem_ins.2 (.inl rfl)
theorem mem_renamed_ne {l : List (List Int × Int)} {tn y : List Int} {id i : Int} (h : (y, i) ∈ l) (hne : y ≠ tn) : (y, i) ∈ renamed l tn id := by
  unfold renamed
  split
  · rename_i q
    unfold thereN at q
    simp only [Bool.and_eq_true, decide_eq_true_eq] at q
    obtain ⟨j, hj, e⟩ := List.getElem_of_mem h
    have hjk : rankN l tn ≠ j := fun r => by
      subst r
      have := q.2
      simp only [List.getD, List.getElem?_eq_getElem hj, Option.getD_some, e] at this
      exact hne this
    refine List.mem_iff_getElem.2 ⟨j, by simpa using hj, ?_⟩
    rw [List.getElem_set_ne hjk]
    exact e
  · exact mem_ins.2 (.inr h)
theorem rename_new {s t : St} (h : Good s) {x tn : List Int} {id : Int} {d : List Int} {n : Int} (ha : At s x id d n) (hne : tn ≠ x) (hr : renameP s x tn = (t, 0)) : At t tn id d n := by
  obtain ⟨h1, h2, _⟩ := at_all h ha
  unfold renameP at hr
  rw [h1] at hr
  simp only [if_true] at hr
  split at hr
  · try rw [if_neg hne] at hr
    rw [h2] at hr
    simp only [Prod.mk.injEq, and_true] at hr
    subst hr
    exact ⟨mem_renamed, mem_swept (s := { s with names := renamed (s.names.eraseIdx (rankN s.names x)) tn id }) ha.2 (.inl ⟨tn, mem_renamed⟩)⟩
  · simp at hr
theorem rename_at {s t : St} (h : Good s) {x tn y : List Int} {id i0 : Int} {d : List Int} {n : Int} (hx : (x, i0) ∈ s.names) (hne : tn ≠ x) (hr : renameP s x tn = (t, 0)) (hy1 : y ≠ x) (hy2 : y ≠ tn) (ha : At s y id d n) : At t y id d n := by
  obtain ⟨hk, e⟩ := name_at h hx
  unfold renameP at hr
  split at hr
  · split at hr
    · try rw [if_neg hne] at hr
      simp only [Prod.mk.injEq, and_true] at hr
      subst hr
      have hm : (y, id) ∈ renamed (s.names.eraseIdx (rankN s.names x)) tn (idN s x) := mem_renamed_ne (mem_erase_ne hk ha.1 (fun q => hy1 (by rw [e] at q; injection q))) hy2
      exact ⟨hm, mem_swept (s := { s with names := renamed (s.names.eraseIdx (rankN s.names x)) tn (idN s x) }) ha.2 (.inl ⟨y, hm⟩)⟩
    · simp at hr
  · simp at hr
theorem rename_safe {s t : St} {x tn y : List Int} {id : Int} {d : List Int} {n : Int} (hne : tn ≠ x) (hr : renameP s x tn = (t, 0)) (ha : SafeAt s y id d n) : SafeAt t y id d n := by
  unfold renameP at hr
  split at hr
  · split at hr
    · try rw [if_neg hne] at hr
      simp only [Prod.mk.injEq, and_true] at hr
      subst hr
      exact ⟨ha.1, mem_swept (s := { s with names := renamed (s.names.eraseIdx (rankN s.names x)) tn (idN s x) }) ha.2 (.inr ⟨y, ha.1⟩)⟩
    · simp at hr
  · simp at hr
theorem names_at {s : St} {y : List Int} {id : Int} {d : List Int} {n : Int} (ha : At s y id d n) : At (syncNamesP s) y id d n ∧ SafeAt (syncNamesP s) y id d n := by
  have hm : (id, d, n) ∈ (syncNamesP s).files := mem_swept (s := { s with safe := s.names }) ha.2 (.inl ⟨y, ha.1⟩)
  exact ⟨⟨ha.1, hm⟩, ⟨ha.1, hm⟩⟩
theorem crash_at {s : St} (h : Good s) {y : List Int} {id : Int} {d : List Int} {n : Int} (ha : SafeAt s y id d n) (keep : List Int) :
    ∃ m : Nat, n ≤ (m : Int) ∧ m ≤ d.length ∧ At (crashP s keep).1 y id (d.take m) m ∧ SafeAt (crashP s keep).1 y id (d.take m) m := by
  obtain ⟨k, hk, e⟩ := List.getElem_of_mem ha.2
  have hb : 0 ≤ n ∧ n ≤ (d.length : Int) := h.sync _ ha.2
  have hc : (cutTo keep s.files s.files.length)[k]? = some (cutF (id, d, n) (keep.getD k 0)) := by
    unfold cutTo
    rw [List.getElem?_mapIdx, List.getElem?_eq_getElem hk]
    simp [hk, e]
  have hl : 0 ≤ leftN (id, d, n) (keep.getD k 0) ∧ n ≤ leftN (id, d, n) (keep.getD k 0) ∧ leftN (id, d, n) (keep.getD k 0) ≤ (d.length : Int) := by
    unfold leftN
    simp only
    omega
  refine ⟨(leftN (id, d, n) (keep.getD k 0)).toNat, by omega, by omega, ?_⟩
  have hm : (id, d.take (leftN (id, d, n) (keep.getD k 0)).toNat, (((leftN (id, d, n) (keep.getD k 0)).toNat : Nat) : Int)) ∈ (crashP s keep).1.files := by
    unfold crashP
    rw [good_check h]
    simp only [if_true]
    refine mem_swept (s := { s with files := cutTo keep s.files s.files.length, names := s.safe }) ?_ (.inl ⟨y, ha.1⟩)
    have := List.mem_of_getElem? hc
    unfold cutF at this
    simp only at this
    rw [Int.toNat_of_nonneg hl.1]
    exact this
  have hn : (crashP s keep).1.names = s.safe ∧ (crashP s keep).1.safe = s.safe := by
    unfold crashP
    rw [good_check h]
    exact ⟨rfl, rfl⟩
  exact ⟨⟨by rw [hn.1]; exact ha.1, hm⟩, ⟨by rw [hn.2]; exact ha.1, hm⟩⟩
theorem crash_read {s : St} (h : Good s) {y : List Int} {id : Int} {d : List Int} (ha : SafeAt s y id d d.length) (keep : List Int) : readP (crashP s keep).1 y = (d, 0) := by
  obtain ⟨m, h1, h2, h3, _⟩ := crash_at h ha keep
  have : m = d.length := by omega
  subst this
  rw [List.take_length] at h3
  exact at_read (crash_good h keep) h3
end Go.Proofs.YtnchjlimkgbfpaaGreatDoor

namespace Go.Proofs.YtnchjlimkgbfpaaGreatDoor
open Go.RowKit
set_option linter.unusedVariables false
set_option maxRecDepth 20000
set_option linter.unusedSimpArgs false
def curL : List Int := [67, 85, 82, 82, 69, 78, 84]
def nxtL : List Int := [110, 101, 120, 116]
def begA (M F P : List Int) : List Ac := [⟨1, M, [], []⟩, ⟨2, M, [], F⟩, ⟨3, M, [], []⟩, ⟨1, nxtL, [], []⟩, ⟨2, nxtL, [], P⟩, ⟨3, nxtL, [], []⟩, ⟨6, [], [], []⟩, ⟨4, nxtL, curL, []⟩, ⟨6, [], [], []⟩]
def Did (s : St) (a : Ac) (t : St) : Prop := actP s a = (t, 0)
theorem Did.good {s t : St} {a : Ac} (h : Did s a t) (g : Good s) : Good t := by
  have := act_good g a
  rw [h] at this
  exact this
theorem laid_ok {s : St} (g : Good s) {M F : List Int} (hm : mayOf M = true) (ht : thereN s.names M = false) (hf : s.files.length < 256) (hn : s.next < 2147483647) (hr : (F.length : Int) ≤ s.cap - usedOf s.files) :
    ∃ t1 t2 t3, Did s ⟨1, M, [], []⟩ t1 ∧ Did t1 ⟨2, M, [], F⟩ t2 ∧ Did t2 ⟨3, M, [], []⟩ t3 ∧ At t3 M s.next F F.length ∧
      t3.cap = s.cap ∧ usedOf t3.files = usedOf s.files + (F.length : Int) ∧ t3.files.length = s.files.length + 1 ∧ t3.next = s.next + 1 ∧
      (∀ t, t = t1 ∨ t = t2 ∨ t = t3 → (∀ y id d n, At s y id d n → At t y id d n) ∧ (∀ y id d n, SafeAt s y id d n → SafeAt t y id d n) ∧ t.safe = s.safe ∧ t.names = insN s.names (rankN s.names M) (M, s.next)) := by
  have e1 := create_ok hm ht hf (by omega)
  obtain ⟨t1, h1⟩ : ∃ t1, t1 = ({ s with names := insN s.names (rankN s.names M) (M, s.next), files := s.files ++ [(s.next, [], 0)], next := s.next + 1 } : St) := ⟨_, rfl⟩
  rw [← h1] at e1
  have d1 : Did s ⟨1, M, [], []⟩ t1 := by unfold Did actP; simp only [if_true]; exact e1
  have g1 := d1.good g
  have a1 := create_new e1
  have n1 : t1.names = insN s.names (rankN s.names M) (M, s.next) := by rw [h1]
  have u1 : usedOf t1.files = usedOf s.files := by rw [h1]; unfold usedOf; simp
  have c1 : t1.cap = s.cap := by rw [h1]
  have e2 := extend_ok g1 a1 (data := F) (by rw [c1, u1]; exact hr)
  obtain ⟨t2, h2⟩ : ∃ t2, t2 = ({ t1 with files := t1.files.set (idxF t1 M) (s.next, [] ++ F, 0) } : St) := ⟨_, rfl⟩
  rw [← h2] at e2
  have d2 : Did t1 ⟨2, M, [], F⟩ t2 := by unfold Did actP; simp; exact e2
  have g2 := d2.good g1
  have a2 := extend_at g1 a1 e2
  obtain ⟨o1, o2, o3⟩ := extend_other g1 a1 e2
  rw [List.nil_append] at a2
  obtain ⟨t3, e3, a3, p1, p2, p3, p4, p5, p6, p7⟩ := sync_ok g2 a2
  have d3 : Did t2 ⟨3, M, [], []⟩ t3 := by unfold Did actP; simp; exact e3
  have hk : ∃ hk : idxF t1 M < t1.files.length, t1.files[idxF t1 M] = (s.next, [], 0) := (at_all g1 a1).2.2.2
  have u2 : usedOf t2.files = usedOf s.files + (F.length : Int) := by
    obtain ⟨hk, ek⟩ := hk
    rw [h2, ← u1]
    have : ∀ (l : List (Int × List Int × Int)) (k : Nat) (hk : k < l.length) (v : Int × List Int × Int), usedOf (l.set k v) = usedOf l - (l[k].2.1.length : Int) + (v.2.1.length : Int) := by
      intro l
      induction l with
      | nil => intro k hk; simp at hk
      | cons x l ih =>
        intro k hk v
        cases k with
        | zero => simp [usedOf]; omega
        | succ k =>
          have := ih k (by simpa using hk) v
          simp only [List.set_cons_succ, usedOf, List.map_cons, List.sum_cons, List.getElem_cons_succ] at this ⊢
          omega
    rw [this _ _ hk, ek]
    simp
  refine ⟨t1, t2, t3, d1, d2, d3, a3, ?_, ?_, ?_, ?_, ?_⟩
  · rw [p4, h2, c1]
  · rw [p7, u2]
  · rw [p6, h2]; simp [h1]
  · rw [p5, h2]; simp [h1]
  have low : ∀ (y : List Int) (id : Int) (d : List Int) (n : Int), (id, d, n) ∈ s.files → id ≠ s.next := fun y id d n h => by
    have := (g.ids _ h).2
    simp only at this
    omega
  intro t ht
  have k1 : (∀ y id d n, At s y id d n → At t1 y id d n) ∧ (∀ y id d n, SafeAt s y id d n → SafeAt t1 y id d n) := ⟨fun y id d n => create_at e1, fun y id d n => create_safe e1⟩
  have k2 : (∀ y id d n, At s y id d n → At t2 y id d n) ∧ (∀ y id d n, SafeAt s y id d n → SafeAt t2 y id d n) :=
    ⟨fun y id d n h => ⟨by rw [o1]; exact (k1.1 y id d n h).1, o3 _ (k1.1 y id d n h).2 (low y id d n h.2)⟩, fun y id d n h => ⟨by rw [o2]; exact (k1.2 y id d n h).1, o3 _ (k1.2 y id d n h).2 (low y id d n h.2)⟩⟩
  have s1 : t1.safe = s.safe := by rw [h1]
  rcases ht with rfl | rfl | rfl
  · exact ⟨k1.1, k1.2, s1, n1⟩
  · exact ⟨k2.1, k2.2, by rw [o2, s1], by rw [o1, n1]⟩
  · refine ⟨fun y id d n h => ⟨by rw [p1]; exact (k2.1 y id d n h).1, p3 _ (k2.1 y id d n h).2 (low y id d n h.2)⟩, fun y id d n h => ⟨by rw [p2]; exact (k2.2 y id d n h).1, p3 _ (k2.2 y id d n h).2 (low y id d n h.2)⟩, by rw [p2, o2, s1], by rw [p1, o1, n1]⟩
theorem there_mem {l : List (List Int × Int)} {x : List Int} (h : thereN l x = true) : ∃ id, (x, id) ∈ l := by
  unfold thereN at h
  simp only [Bool.and_eq_true, decide_eq_true_eq] at h
  refine ⟨(l.getD (rankN l x) ([], 0)).2, ?_⟩
  have e : l.getD (rankN l x) ([], 0) = l[rankN l x]'h.1 := by simp [List.getD, h.1]
  have h2 := h.2
  rw [e] at h2 ⊢
  have hm : l[rankN l x]'h.1 ∈ l := List.getElem_mem _
  generalize l[rankN l x]'h.1 = p at *
  obtain ⟨p1, p2⟩ := p
  simp only at h2
  subst h2
  exact hm
theorem mem_there {s : St} (g : Good s) {x : List Int} {id : Int} (h : (x, id) ∈ s.names) : thereN s.names x = true := by
  obtain ⟨hk, e⟩ := name_at g h
  unfold thereN
  simp [List.getD, hk, e]
theorem begin_ok {s : St} (g : Good s) {M F P : List Int} (hm : mayOf M = true) (hM1 : M ≠ nxtL) (hM2 : M ≠ curL) (ht : thereN s.names M = false) (ht2 : thereN s.names nxtL = false) (hf : s.files.length < 255) (hn : s.next < 2147483646) (hr : (F.length : Int) + (P.length : Int) ≤ s.cap - usedOf s.files) :
    ∃ t : Nat → St, t 0 = s ∧ (∀ k, k < 9 → Did (t k) ((begA M F P).getD k noAc) (t (k + 1))) ∧ (∀ k, k ≤ 9 → Good (t k)) ∧
      (∀ k, k ≤ 8 → ∀ y id d n, At s y id d n → SafeAt s y id d n → SafeAt (t k) y id d n) ∧
      SafeAt (t 9) curL (s.next + 1) P P.length ∧ SafeAt (t 9) M s.next F F.length ∧ At (t 9) curL (s.next + 1) P P.length ∧ At (t 9) M s.next F F.length ∧
      (∀ y id d n, y ≠ curL → y ≠ nxtL → At s y id d n → At (t 9) y id d n ∧ SafeAt (t 9) y id d n) := by
  obtain ⟨t1, t2, t3, d1, d2, d3, a3, c3, u3, l3, n3, K⟩ := laid_ok g hm ht (by omega) (by omega) (F := F) (by omega)
  have g1 := d1.good g
  have g2 := d2.good g1
  have g3 := d3.good g2
  have K1 := K t1 (.inl rfl)
  have K2 := K t2 (.inr (.inl rfl))
  have K3 := K t3 (.inr (.inr rfl))
  have ht3 : thereN t3.names nxtL = false := by
    cases q : thereN t3.names nxtL with
    | false => rfl
    | true =>
      obtain ⟨id, hid⟩ := there_mem q
      rw [K3.2.2.2] at hid
      rcases mem_ins.1 hid with e | e
      · injection e with e1 e2
        exact absurd e1.symm hM1
      · rw [mem_there g e] at ht2
        cases ht2
  obtain ⟨t4, t5, t6, d4, d5, d6, a6, c6, u6, l6, n6, L⟩ := laid_ok g3 (M := nxtL) (F := P) (by decide) ht3 (by omega) (by omega) (by rw [c3, u3]; omega)
  have g4 := d4.good g3
  have g5 := d5.good g4
  have g6 := d6.good g5
  have L4 := L t4 (.inl rfl)
  have L5 := L t5 (.inr (.inl rfl))
  have L6 := L t6 (.inr (.inr rfl))
  rw [n3] at a6
  have d7 : Did t6 ⟨6, [], [], []⟩ (syncNamesP t6) := by unfold Did actP; simp
  have g7 := d7.good g6
  have a7 := names_at a6
  have hcn : curL ≠ nxtL := by decide
  have d8e : ∃ t8, renameP (syncNamesP t6) nxtL curL = (t8, 0) := by
    unfold renameP
    rw [mem_there g7 a7.1.1]
    have : mayOf curL = true := by decide
    rw [this]
    simp only [if_true]
    rw [if_neg hcn]
    exact ⟨_, rfl⟩
  obtain ⟨t8, e8⟩ := d8e
  have d8 : Did (syncNamesP t6) ⟨4, nxtL, curL, []⟩ t8 := by unfold Did actP; simp; exact e8
  have g8 := d8.good g7
  have d9 : Did t8 ⟨6, [], [], []⟩ (syncNamesP t8) := by unfold Did actP; simp
  have g9 := d9.good g8
  have aM6 : At t6 M s.next F F.length := L6.1 _ _ _ _ a3
  have aM7 := names_at aM6
  have aM8 : At t8 M s.next F F.length := rename_at g7 a7.1.1 hcn e8 hM1 hM2 aM7.1
  have aC8 : At t8 curL (s.next + 1) P P.length := rename_new g7 a7.1 hcn e8
  refine ⟨fun k => match k with | 0 => s | 1 => t1 | 2 => t2 | 3 => t3 | 4 => t4 | 5 => t5 | 6 => t6 | 7 => syncNamesP t6 | 8 => t8 | _ => syncNamesP t8, rfl, ?_, ?_, ?_, (names_at aC8).2, (names_at aM8).2, (names_at aC8).1, (names_at aM8).1, ?_⟩
  · intro k hk
    match k, hk with
    | 0, _ => exact d1
    | 1, _ => exact d2
    | 2, _ => exact d3
    | 3, _ => exact d4
    | 4, _ => exact d5
    | 5, _ => exact d6
    | 6, _ => exact d7
    | 7, _ => exact d8
    | 8, _ => exact d9
  · intro k hk
    match k, hk with
    | 0, _ => exact g
    | 1, _ => exact g1
    | 2, _ => exact g2
    | 3, _ => exact g3
    | 4, _ => exact g4
    | 5, _ => exact g5
    | 6, _ => exact g6
    | 7, _ => exact g7
    | 8, _ => exact g8
    | 9, _ => exact g9
  · intro k hk y id d n ha hs
    have A6 : At t6 y id d n := L6.1 _ _ _ _ (K3.1 _ _ _ _ ha)
    have S7 : SafeAt (syncNamesP t6) y id d n := (names_at A6).2
    match k, hk with
    | 0, _ => exact hs
    | 1, _ => exact K1.2.1 _ _ _ _ hs
    | 2, _ => exact K2.2.1 _ _ _ _ hs
    | 3, _ => exact K3.2.1 _ _ _ _ hs
    | 4, _ => exact L4.2.1 _ _ _ _ (K3.2.1 _ _ _ _ hs)
    | 5, _ => exact L5.2.1 _ _ _ _ (K3.2.1 _ _ _ _ hs)
    | 6, _ => exact L6.2.1 _ _ _ _ (K3.2.1 _ _ _ _ hs)
    | 7, _ => exact S7
    | 8, _ => exact rename_safe hcn e8 S7
  · intro y id d n h1 h2 ha
    have A6 : At t6 y id d n := L6.1 _ _ _ _ (K3.1 _ _ _ _ ha)
    exact names_at (rename_at g7 a7.1.1 hcn e8 h2 h1 (names_at A6).1)
theorem go_did : ∀ (l : List Ac) (s : St) (t : Nat → St), t 0 = s → (∀ k, k < l.length → Did (t k) (l.getD k noAc) (t (k + 1))) → goP s l = (t l.length, (l.length : Int), 0)
  | [], s, t, h0, _ => by rw [← h0]; rfl
  | a :: l, s, t, h0, h => by
    have d0 := h 0 (by simp)
    rw [h0] at d0
    simp only [List.getD_cons_zero] at d0
    have ih := go_did l (t 1) (fun k => t (k + 1)) rfl (fun k hk => by
      have := h (k + 1) (by simpa using hk)
      simpa using this)
    unfold goP
    rw [d0]
    simp only [if_true]
    rw [ih]
    simp
theorem run_did {s : St} (g : Good s) {l : List Ac} {t : Nat → St} (h0 : t 0 = s) (h : ∀ k, k < l.length → Did (t k) (l.getD k noAc) (t (k + 1))) (j : Nat) (hj : j ≤ l.length) : runP s (l.take j) = (t j, (j : Int), 0) := by
  unfold runP
  rw [good_check g]
  simp only [if_true]
  have := go_did (l.take j) s t h0 (fun k hk => by
    have hk' : k < j ∧ k < l.length := by rw [List.length_take] at hk; omega
    have e : (l.take j).getD k noAc = l.getD k noAc := by simp [List.getD, List.getElem?_take, hk'.1]
    rw [e]
    exact h k hk'.2)
  rw [this, List.length_take, Nat.min_eq_left hj]
def noteA (M D : List Int) : List Ac := [⟨2, M, [], D⟩, ⟨3, M, [], []⟩]
theorem note_crash {s : St} (g : Good s) {M C F P D : List Int} {id ic : Int} (aM : At s M id F F.length) (sM : SafeAt s M id F F.length) (aC : At s C ic P P.length) (sC : SafeAt s C ic P P.length) (hne : ic ≠ id) (hr : (D.length : Int) ≤ s.cap - usedOf s.files) (keep : List Int) (j : Nat) (hj : j ≤ 2) :
    ∃ m, m ≤ D.length ∧ readP (crashP (runP s ((noteA M D).take j)).1 keep).1 M = (F ++ D.take m, 0) ∧ readP (crashP (runP s ((noteA M D).take j)).1 keep).1 C = (P, 0) ∧ (j = 2 → m = D.length) := by
  have e1 := extend_ok g aM (data := D) hr
  obtain ⟨t1, h1⟩ : ∃ t1, t1 = ({ s with files := s.files.set (idxF s M) (id, F ++ D, (F.length : Int)) } : St) := ⟨_, rfl⟩
  rw [← h1] at e1
  have d1 : Did s ⟨2, M, [], D⟩ t1 := by unfold Did actP; simp; exact e1
  have g1 := d1.good g
  have a1 := extend_at g aM e1
  obtain ⟨o1, o2, o3⟩ := extend_other g aM e1
  have s1 : SafeAt t1 M id (F ++ D) F.length := ⟨by rw [o2]; exact sM.1, a1.2⟩
  have sC1 : SafeAt t1 C ic P P.length := ⟨by rw [o2]; exact sC.1, o3 _ sC.2 hne⟩
  obtain ⟨t2, e2, a2, p1, p2, p3, _⟩ := sync_ok g1 a1
  have d2 : Did t1 ⟨3, M, [], []⟩ t2 := by unfold Did actP; simp; exact e2
  have g2 := d2.good g1
  have s2 : SafeAt t2 M id (F ++ D) (F ++ D).length := ⟨by rw [p2]; exact s1.1, a2.2⟩
  have sC2 : SafeAt t2 C ic P P.length := ⟨by rw [p2]; exact sC1.1, p3 _ sC1.2 hne⟩
  have hrun := run_did (l := noteA M D) (t := fun k => match k with | 0 => s | 1 => t1 | _ => t2) g rfl (fun k hk => by
    match k, hk with
    | 0, _ => exact d1
    | 1, _ => exact d2) j (by show j ≤ 2; exact hj)
  rw [hrun]
  match j, hj with
  | 0, _ => exact ⟨0, Nat.zero_le _, by simpa using crash_read g sM keep, crash_read g sC keep, fun h => by cases h⟩
  | 1, _ =>
    obtain ⟨m, q1, q2, q3, _⟩ := crash_at g1 s1 keep
    refine ⟨m - F.length, by rw [List.length_append] at q2; omega, ?_, crash_read g1 sC1 keep, fun h => by cases h⟩
    have := at_read (crash_good g1 keep) q3
    rw [List.take_append, List.take_of_length_le (by omega)] at this
    exact this
  | 2, _ => exact ⟨D.length, Nat.le_refl _, by rw [List.take_length]; exact crash_read g2 s2 keep, crash_read g2 sC2 keep, fun _ => rfl⟩
end Go.Proofs.YtnchjlimkgbfpaaGreatDoor
