/- The document's ownNames and without. -/
import Derived.Test.YtoceddpjkodfkaaFLeaf
namespace Go.Proofs.Ytoceddpjkodfkaa
open Go.RowKit
set_option linter.unusedVariables false

theorem Try.info88 : (Try.prog.info? 88).map (fun i => (i.zero, i.size, i.bytes)) = some (some (.agg #[.string ⟨#[]⟩, .int .i64 0]), 2, 24) := by kernel_rfl

theorem nrow_one (l : List (List Int × Int)) : ∀ cs ∈ l.map nrow, ∀ u ∈ cs, u.oneCell' = true := by
  intro cs hcs u hu
  obtain ⟨p, _, rfl⟩ := List.mem_map.1 hcs
  simp [nrow] at hu
  rcases hu with rfl | rfl <;> rfl

/-- Names in memory of the call's own. -/
def OwnN (w : World) (base : Nat) (e : TypeId) (v : Value) (l : List (List Int × Int)) : Prop := (∀ p ∈ l, OctL p.1 ∧ p.1.length ≤ 140737488355328 ∧ In64 p.2) ∧ OwnR w base e 2 v (l.map nrow)

theorem OwnN.nil (w : World) (base : Nat) (e : TypeId) : OwnN w base e (.slice none 0 0) [] := ⟨(fun p h => by cases h), OwnR.nil _ _ _ _⟩
theorem OwnN.up {w w' : World} {base : Nat} {e : TypeId} {v : Value} {l : List (List Int × Int)} (h : OwnN w base e v l) (hb : Below w.heap.size w w') : OwnN w' base e v l := ⟨h.1, h.2.up hb⟩
theorem NamesW.own {w : World} {base : Nat} {e : TypeId} {v : Value} {l : List (List Int × Int)} (h : OwnN w base e v l) : NamesW w v l := ⟨h.1, Rws.own h.2⟩

set_option maxHeartbeats 400000 in
theorem refOwnNames_any (l : List (List Int × Int)) (v : Value) (w : World) (hv : NamesW w v l) (hl : l.length ≤ 4398046511104) :
    Calls Try.prog 38 #[v] w fun e w' => ∃ v', e = .returned v' ∧ OwnN w' w.heap.size 88 v' l ∧ Below w.heap.size w w' := by
  have HV : Hid (NamesW w v l) := hv
  clear hv
  go_enter Try.func38, Try.ntmps38
  go_wp2_with (at_builtin; refine wpList_append_rows _ rfl _ _ 23 88 (.agg #[.string ⟨#[]⟩, .int .i64 0]) 2 24 rfl Try.underlying23 Try.info88 rfl (by decide) w.heap.size _ [] rfl (OwnR.nil _ _ _ _) _ (l.map nrow) rfl HV.out.2 (nrow_one l) ?c1 ?c2 (Nat.le_refl _) ?_)
  try case c1 => (simp only [List.length_nil, List.length_map]; omega)
  try case c2 => (simp only [List.length_nil, List.length_map, maxLen]; omega)
  intro v' w' hown hg
  go_wp2
  go_ret
  refine ⟨_, rfl, ⟨HV.out.1, hown⟩, ?_⟩
  exact (Below.refl _ _).grown hg (Nat.le_refl _) (by simp [Value.ownBlock])

def withoutOf (l : List (List Int × Int)) (s : List Int) : List (List Int × Int) := l.filter fun p => !decide (p.1 = s)

theorem without_snoc (l : List (List Int × Int)) (k : Nat) (s : List Int) (h : k < l.length) : withoutOf (l.take (k + 1)) s = withoutOf (l.take k) s ++ (if (l.getD k ([], 0)).1 = s then [] else [l.getD k ([], 0)]) := by
  rw [take_snoc l k ([], 0) h]
  unfold withoutOf
  rw [List.filter_append]
  congr 1
  generalize l.getD k ([], 0) = y
  by_cases c : y.1 = s
  · simp [c]
  · simp [c]

theorem without_wf (l : List (List Int × Int)) (s : List Int) (h : ∀ p ∈ l, OctL p.1 ∧ p.1.length ≤ 140737488355328 ∧ In64 p.2) : ∀ p ∈ withoutOf l s, OctL p.1 ∧ p.1.length ≤ 140737488355328 ∧ In64 p.2 := fun p hp => h p (List.mem_filter.1 hp).1

theorem without_len (l : List (List Int × Int)) (s : List Int) : (withoutOf l s).length ≤ l.length := List.length_filter_le _ _

set_option maxHeartbeats 1000000 in
theorem refWithout_any (l : List (List Int × Int)) (s : List Int) (hs : OctL s) (v : Value) (w : World) (hv : NamesW w v l) (hl : l.length ≤ 4398046511104) :
    Calls Try.prog 42 #[v, .string (strOfNums s)] w fun e w' => ∃ v', e = .returned v' ∧ OwnN w' w.heap.size 88 v' (withoutOf l s) ∧ Below w.heap.size w w' := by
  have HV : Hid (NamesW w v l) := hv
  obtain ⟨a, cap, rfl, hcap, hmax⟩ := hv.len
  clear hv
  unfold maxLen at hmax
  go_enter Try.func42, Try.ntmps42
  go_wp2
  go_loopw [5, 6] (fun vb i wr => ∃ k : Nat, k ≤ l.length ∧ i = .int .i64 k ∧ Hid (OwnN wr w.heap.size 88 vb (withoutOf (l.take k) s)) ∧ Hid (Below w.heap.size w wr)) (fun _ i _ => l.length - (intOf i).toNat)
  case atStart => exact ⟨0, Nat.zero_le _, rfl, OwnN.nil _ _ _, Below.refl _ _⟩
  case round =>
    obtain ⟨k, hk, rfl, HW, HB⟩ := hrel
    by_cases hlt : k < l.length
    · have hlt' : (k : Int) < (l.length : Int) := by omega
      obtain ⟨b, off, cap', e, _, _, c0, c1, ho, hol, hi⟩ := (HV.out.up HB.out).at k hlt
      simp at e
      obtain ⟨rfl, rfl⟩ := e
      have HT : Hid (withoutOf (l.take (k + 1)) s = withoutOf (l.take k) s ++ (if (l.getD k ([], 0)).1 = s then [] else [l.getD k ([], 0)])) := without_snoc l k s hlt
      have hkl : (withoutOf (l.take k) s).length ≤ k := Nat.le_trans (without_len _ _) (List.length_take_le k l)
      generalize l.getD k ([], 0) = y at *
      obtain ⟨ys, yi⟩ := y
      simp only at c0 c1 ho hol hi HT
      have heq := str_eq ys s ho hs
      have hsz := HB.out.size
      by_cases d : ys = s
      · rw [decide_eq_true d] at heq
        rw [if_pos d, List.append_nil] at HT
        clear d
        go_wp2
        exact ⟨⟨k + 1, by omega, by go_num, by rw [HT.out]; exact HW, HB⟩, by simp [intOf]; omega⟩
      · rw [decide_eq_false d] at heq
        rw [if_neg d] at HT
        have HY : Hid (OctL ys ∧ ys.length ≤ 140737488355328 ∧ In64 yi) := ⟨ho, hol, hi⟩
        clear d ho hol hi
        go_wp2_with (at_builtin; refine wpList_append_row _ rfl _ _ 23 88 (.agg #[.string ⟨#[]⟩, .int .i64 0]) 2 24 rfl Try.underlying23 Try.info88 rfl (by decide) w.heap.size _ ((withoutOf (l.take k) s).map nrow) rfl HW.out.2 (nrow (ys, yi)) _ _ rfl rfl rfl rfl ?o1 ?c1 ?c2 ?c3 ?_)
        try case o1 => exact nrow_one [(ys, yi)] _ (by simp)
        try case c1 => (simp only [List.length_map]; omega)
        try case c2 => (simp only [List.length_map, maxLen]; omega)
        try case c3 => exact hsz
        intro v' w3 hown hb3
        have HW3 : Hid (OwnN w3 w.heap.size 88 v' (withoutOf (l.take (k + 1)) s)) := by
          rw [HT.out]
          refine ⟨?_, ?_⟩
          · intro p hp
            rcases List.mem_append.1 hp with h | h
            · exact HW.out.1 p h
            · simp at h
              subst h
              exact HY.out
          · rw [List.map_append]
            exact hown
        have HB3 : Hid (Below w.heap.size w w3) := HB.out.trans hb3
        clear hown hb3
        go_wp2
        exact ⟨⟨k + 1, by omega, by go_num, HW3, HB3⟩, by simp [intOf]; omega⟩
    · have hlt' : ¬ (k : Int) < (l.length : Int) := by omega
      obtain rfl : k = l.length := by omega
      rw [List.take_length] at HW
      go_wp2
      go_ret
      exact ⟨_, rfl, HW.out, HB.out⟩
end Go.Proofs.Ytoceddpjkodfkaa
