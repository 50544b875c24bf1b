/- Acts that change a file: sync, append. -/
import Derived.Test.YtoceddpjkodfkaaQ8
namespace Go.Proofs.Ytoceddpjkodfkaa
open Go.RowKit
set_option linter.unusedVariables false

abbrev noF : FRow := (undef, 0, [], 0)

/-! ### octets as rows of one cell -/
theorem octR_len (l : List Int) : ∀ cs ∈ l.map (fun x => [Value.int .u8 x]), cs.length = 1 := by
  intro cs hcs
  obtain ⟨p, _, rfl⟩ := List.mem_map.1 hcs
  rfl
theorem octR_flat (l : List Int) : (l.map (fun x => [Value.int .u8 x])).flatten = l.map (Value.int .u8) := by
  induction l with
  | nil => rfl
  | cons x l ih => simp [ih]
theorem OwnB.rows {w : World} {base : Nat} {v : Value} {l : List Int} (h : OwnB w base v l) : OwnR w base 5 1 v (l.map (fun x => [Value.int .u8 x])) := by
  refine ⟨octR_len l, ?_⟩
  rw [octR_flat, List.length_map]
  exact h
theorem OwnR.octs {w : World} {base : Nat} {v : Value} {l : List Int} (h : OwnR w base 5 1 v (l.map (fun x => [Value.int .u8 x]))) : OwnB w base v l := by
  have := h.2
  rw [octR_flat, List.length_map] at this
  exact this

theorem run_append_octs_near (w : World) (ty : TypeId) (base : Nat) (v vx : Value) (l0 lx : List Int) (hown : OwnB w base v l0) (hO : Octs w vx lx) (hsz : l0.length + lx.length ≤ 140737488355328) (hbase : base ≤ w.heap.size) :
    ∃ v' w', (Builtin.append_ #[26, 26] ty #[v, vx]).run Try.prog w = .ok v' w' ∧ OwnB w' base v' (l0 ++ lx) ∧ w.grownBy w' v.ownBlock ∧ Near w v v' := by
  obtain ⟨hoct, hO⟩ := hO
  have key : ∀ (ad : Addr) (c : Nat), vx = .slice (some ad) lx.length c → (∀ j u, (lx.map (Value.int .u8))[j]? = some u → w.cell? (ad.add j) = some u) → ∃ v' w', (Builtin.append_ #[26, 26] ty #[v, vx]).run Try.prog w = .ok v' w' ∧ OwnB w' base v' (l0 ++ lx) ∧ w.grownBy w' v.ownBlock ∧ Near w v v' := by
    intro ad c e hc
    rw [e]
    obtain ⟨v', w', hr, ho, hg, hn⟩ := run_append_near w 26 ty 5 (.int .u8 0) 1 1 Try.underlying26 Try.info5 rfl (by decide) base v (l0.map (fun x => [Value.int .u8 x])) hown.rows ad lx.length c (lx.map (fun x => [Value.int .u8 x])) (octR_len lx) (by simp) (by rw [octR_flat]; exact hc) (by
        intro cs hcs u hu
        obtain ⟨p, _, rfl⟩ := List.mem_map.1 hcs
        simp at hu
        subst hu
        rfl) (by rw [List.length_map]; omega) (by rw [List.length_map]; unfold maxLen; omega) hbase
    rw [← List.map_append] at ho
    exact ⟨v', w', hr, ho.octs, hg, hn⟩
  rcases hO with ⟨rfl, ax, cap, rfl, hn⟩ | ⟨hne, b, off, cap, rfl, hcap, hm, hc⟩
  · cases ax with
    | none =>
      obtain rfl := hn rfl
      obtain ⟨i0, hi, hz0, hz1, hz2⟩ := info_some Try.info5
      have hrun := run_append_owned_none (P := Try.prog) (w := w) base 26 ty 5 i0 1 Try.underlying26 hi v l0.length (l0.map (Value.int .u8)) hown
      exact ⟨v, w, hrun, by simpa using hown, grown_refl _ _, .inl rfl⟩
    | some ad => exact key ad cap rfl (fun j u hj => by simp at hj)
  · refine key ⟨b, off, none⟩ cap rfl fun j u hj => ?_
    rw [List.getElem?_map] at hj
    cases hx : lx[j]? with
    | none => rw [hx] at hj; cases hj
    | some y =>
      rw [hx] at hj
      simp at hj
      subst hj
      rw [Addr.add_lit]
      exact hc j y hx

/-! ### a file is changed in its row -/
theorem fset_map (m : List FRow) (i : Nat) (hi : i < m.length) (y : FRow) : (m.set i y).map frow = (m.map frow).set i (frow y) := by rw [List.map_set]

theorem pairwise_set {m : List FRow} {i : Nat} {y : FRow} (hi : i < m.length) (h : m.Pairwise (fun a b => Apart a.1 b.1)) (hy : ∀ j, j < m.length → j ≠ i → Apart y.1 (m.getD j noF).1) : (m.set i y).Pairwise (fun a b => Apart a.1 b.1) := by
  rw [List.pairwise_iff_getElem] at h ⊢
  intro a b ha hb hab
  have ha' : a < m.length := by simpa using ha
  have hb' : b < m.length := by simpa using hb
  rw [List.getElem_set, List.getElem_set]
  by_cases e1 : i = a
  · have e2 : ¬ i = b := by omega
    rw [if_pos e1, if_neg e2]
    have := hy b hb' (fun q => e2 q.symm)
    simpa [List.getD, hb'] using this
  · rw [if_neg e1]
    by_cases e2 : i = b
    · rw [if_pos e2]
      have := hy a ha' (fun q => e1 q.symm)
      exact Apart.symm (by simpa [List.getD, ha'] using this)
    · rw [if_neg e2]
      exact h a b ha' hb' hab

theorem apart_at {m : List FRow} (h : m.Pairwise (fun a b => Apart a.1 b.1)) (i j : Nat) (hi : i < m.length) (hj : j < m.length) (hne : i ≠ j) : Apart (m.getD i noF).1 (m.getD j noF).1 := by
  rw [List.pairwise_iff_getElem] at h
  rcases Nat.lt_or_ge i j with c | c
  · have := h i j hi hj c
    simpa [List.getD, hi, hj] using this
  · have := h j i hj hi (by omega)
    have := this.symm
    simpa [List.getD, hi, hj] using this

/-- How many are synced is written. -/
theorem OwnF.sync {w : World} {base g n c : Nat} {m : List FRow} (h : OwnF w base (.slice (some ⟨g, 0, none⟩) n c) m) (hn : m.length = n) (i : Nat) (hi : i < n) (k : Int) (hk : In64 k) :
    OwnF (w.setCell ⟨g, i * 3 + 2, none⟩ (.int .i64 k)) base (.slice (some ⟨g, 0, none⟩) n c) (m.set i ((m.getD i noF).1, (m.getD i noF).2.1, (m.getD i noF).2.2.1, k)) := by
  have st := OwnR.set h.1 (by rw [List.length_map]; exact hn) i hi 2 (by decide) (.int .i64 k)
  have hmem : m.getD i noF ∈ m := by
    have : i < m.length := by omega
    simp [List.getD, this]
  have hrow : ((m.map frow).getD i []).set 2 (.int .i64 k) = frow ((m.getD i noF).1, (m.getD i noF).2.1, (m.getD i noF).2.2.1, k) := by
    have : i < m.length := by omega
    simp [List.getD, this, frow]
  rw [hrow, ← List.map_set] at st
  refine ⟨st.1, ?_, ?_⟩
  · intro y hy
    rcases List.mem_or_eq_of_mem_set hy with q | q
    · have := h.2.1 y q
      exact ⟨this.1.far st.2.1 (own_own_ne this.1 h.1.2 (by decide)), this.2⟩
    · have := h.2.1 _ hmem
      rw [q]
      exact ⟨this.1.far st.2.1 (own_own_ne this.1 h.1.2 (by decide)), this.2.1, this.2.2.1, this.2.2.2.1, hk⟩
  · refine pairwise_set (by omega) h.2.2 fun j hj hne => ?_
    exact apart_at h.2.2 i j (by omega) hj (fun q => hne q.symm)

/-- Octets were appended to a file: in w1; its slice is written. -/
theorem OwnF.data {w w1 : World} {base g n c : Nat} {m : List FRow} (h : OwnF w base (.slice (some ⟨g, 0, none⟩) n c) m) (hn : m.length = n) (i : Nat) (hi : i < n) {v' : Value} {d : List Int} (ho : OwnB w1 base v' d) (hg : w.grownBy w1 (m.getD i noF).1.ownBlock) (hnear : Near w (m.getD i noF).1 v') (hd : OctL d ∧ d.length ≤ 140737488355328) :
    OwnF (w1.setCell ⟨g, i * 3 + 1, none⟩ v') base (.slice (some ⟨g, 0, none⟩) n c) (m.set i (v', (m.getD i noF).2.1, d, (m.getD i noF).2.2.2)) := by
  have hmem : m.getD i noF ∈ m := by
    have : i < m.length := by omega
    simp [List.getD, this]
  have hi0 := h.2.1 _ hmem
  have hR1 := h.1.far hg (own_own_ne h.1.2 hi0.1 (by decide))
  have st := OwnR.set hR1 (by rw [List.length_map]; exact hn) i hi 1 (by decide) v'
  have hrow : ((m.map frow).getD i []).set 1 v' = frow (v', (m.getD i noF).2.1, d, (m.getD i noF).2.2.2) := by
    have : i < m.length := by omega
    simp [List.getD, this, frow]
  rw [hrow, ← List.map_set] at st
  have others : ∀ j, j < m.length → j ≠ i → OwnB w1 base (m.getD j noF).1 (m.getD j noF).2.2.1 := by
    intro j hj hne
    have hm : m.getD j noF ∈ m := by simp [List.getD, hj]
    exact (h.2.1 _ hm).1.far hg (apart_at h.2.2 j i hj (by omega) hne)
  refine ⟨st.1, ?_, ?_⟩
  · intro y hy
    obtain ⟨j, hj, rfl⟩ := List.getElem_of_mem hy
    have hj' : j < m.length := by simpa using hj
    rw [List.getElem_set]
    by_cases e : i = j
    · rw [if_pos e]
      exact ⟨ho.far st.2.1 (own_own_ne ho hR1.2 (by decide)), hd.1, hd.2, hi0.2.2.2.1, hi0.2.2.2.2⟩
    · rw [if_neg e]
      have h1 := others j hj' (fun q => e q.symm)
      have e1 : m.getD j noF = m[j] := by simp [List.getD, hj']
      rw [e1] at h1
      exact ⟨h1.far st.2.1 (own_own_ne h1 hR1.2 (by decide)), (h.2.1 m[j] (List.getElem_mem hj')).2⟩
  · refine pairwise_set (by omega) h.2.2 fun j hj hne => ?_
    have hm : m.getD j noF ∈ m := by simp [List.getD, hj]
    exact hnear.apart (apart_at h.2.2 i j (by omega) hj (fun q => hne q.symm)) (h.2.1 _ hm).1
end Go.Proofs.Ytoceddpjkodfkaa
