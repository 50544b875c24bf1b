/- What a run and crashes keep, said plainly. -/
import Derived.Test.YtoceddpjkodfkaaM4
import Derived.Test.YtoceddpjkodfkaaR7
namespace Go.Proofs.Ytoceddpjkodfkaa
open Go.RowKit
set_option linter.unusedVariables false

theorem go_good : ∀ (l : List Ac) {s : St}, Good s → Good (goP s l).1 ∧ 0 ≤ (goP s l).2.1 ∧ (goP s l).2.1 ≤ (l.length : Int)
  | [], s, h => ⟨h, by simp [goP], by simp [goP]⟩
  | a :: l, s, h => by
    have hg := act_good h a
    unfold goP
    by_cases c : (actP s a).2 = 0
    · rw [if_pos c]
      have ih := go_good l hg
      refine ⟨ih.1, ?_, ?_⟩
      · show 0 ≤ (goP (actP s a).1 l).2.1 + 1
        omega
      · show (goP (actP s a).1 l).2.1 + 1 ≤ ((a :: l).length : Int)
        simp only [List.length_cons]
        omega
    · rw [if_neg c]
      exact ⟨hg, by simp, by simp only [List.length_cons]; omega⟩

theorem run_good {s : St} (h : Good s) (l : List Ac) : Good (runP s l).1 ∧ 0 ≤ (runP s l).2.1 ∧ (runP s l).2.1 ≤ (l.length : Int) := by
  unfold runP
  rw [good_check h]
  exact go_good l h

theorem run_bad {s : St} (h : checkP s = false) (l : List Ac) : runP s l = (z0, 0, 9) := by
  unfold runP
  rw [h]
  rfl

theorem crash_ok {s : St} (h : Good s) (keep : List Int) : (crashP s keep).2 = 0 := by
  unfold crashP
  rw [good_check h]
  rfl

theorem cutTo_ids (keep : List Int) (l : List (Int × List Int × Int)) : (cutTo keep l l.length).map (·.1) = l.map (·.1) := by
  apply List.ext_getElem
  · simp [cutTo_len]
  · intro i h1 h2
    have hi : i < l.length := by simpa using h2
    have hc : i < (cutTo keep l l.length).length := by simpa using h1
    have e := cutTo_at keep l l.length i hi
    rw [if_pos hi] at e
    have e' : (cutTo keep l l.length)[i] = cutF l[i] (keep.getD i 0) := by simpa [List.getD, hc, hi] using e
    rw [List.getElem_map, List.getElem_map, e']
    rfl

theorem crash_names {s : St} (h : Good s) (keep : List Int) : (crashP s keep).1.names = s.safe ∧ (crashP s keep).1.safe = s.safe := by
  unfold crashP
  rw [good_check h]
  exact ⟨rfl, rfl⟩

theorem crash_again {s : St} (h : Good s) (keep keep2 : List Int) : (crashP (crashP s keep).1 keep2).1.names = (crashP s keep).1.names ∧ (crashP (crashP s keep).1 keep2).1.files.length = (crashP s keep).1.files.length := by
  have hu := crash_good h keep
  have hn := crash_names h keep
  generalize (crashP s keep).1 = u at *
  have hc := crash_names hu keep2
  refine ⟨by rw [hc.1, hn.1, hn.2], ?_⟩
  have hall := hu.all
  unfold crashP
  rw [good_check hu]
  simp only [if_true]
  unfold sweptOf
  simp only
  rw [List.filter_eq_self.2 ?_]
  · exact cutTo_len _ _ _
  · intro f hf
    have hm : f.1 ∈ u.files.map (·.1) := by
      rw [← cutTo_ids keep2 u.files]
      exact List.mem_map.2 ⟨f, hf, rfl⟩
    obtain ⟨g, hg, e⟩ := List.mem_map.1 hm
    have := hall g hg
    rw [e, hn.1, hn.2] at this
    rw [hn.2]
    have hs := (stands_iff s.safe f.1).2 (by simpa using this)
    simp [hs]

theorem box_cells {w : World} {B : Nat} {a b c d e : Value} {t : TypeId} (h : w.heap[B]? = some (.cells #[a, b, c, d, e] t)) :
    w.cell? ⟨B, 0, none⟩ = some a ∧ w.cell? ⟨B, 1, none⟩ = some b ∧ w.cell? ⟨B, 2, none⟩ = some c ∧ w.cell? ⟨B, 3, none⟩ = some d ∧ w.cell? ⟨B, 4, none⟩ = some e :=
  ⟨blk_cell h 0 _ rfl, blk_cell h 1 _ rfl, blk_cell h 2 _ rfl, blk_cell h 3 _ rfl, blk_cell h 4 _ rfl⟩

theorem StW.form {w : World} {v : Value} {s : St} (h : StW w v s) : ∃ af cf an cn as' cs', v = .agg #[.int .i64 s.cap, .slice af s.files.length cf, .slice an s.names.length cn, .slice as' s.safe.length cs', .int .i64 s.next] := by
  obtain ⟨vf, vn, vs, rfl, hf, hn, hs, _, _⟩ := h
  obtain ⟨af, cf, rfl, _, _⟩ := hf.len
  obtain ⟨an, cn, rfl, _, _⟩ := hn.len
  obtain ⟨as', cs', rfl, _, _⟩ := hs.len
  exact ⟨_, _, _, _, _, _, rfl⟩

theorem good_few {s : St} (h : Good s) : s.names.length + s.safe.length ≤ 9223372036854775807 := by
  have h1 : s.names.length ≤ s.files.length := by
    have := nodup_le (s.names.map (·.2)) (s.files.map (·.1)) h.names.once (by
      intro x hx
      obtain ⟨p, hp, rfl⟩ := List.mem_map.1 hx
      exact h.names.ids p hp)
    simpa using this
  have h2 : s.safe.length ≤ s.files.length := by
    have := nodup_le (s.safe.map (·.2)) (s.files.map (·.1)) h.safe.once (by
      intro x hx
      obtain ⟨p, hp, rfl⟩ := List.mem_map.1 hx
      exact h.safe.ids p hp)
    simpa using this
  have := h.few
  omega
end Go.Proofs.Ytoceddpjkodfkaa
