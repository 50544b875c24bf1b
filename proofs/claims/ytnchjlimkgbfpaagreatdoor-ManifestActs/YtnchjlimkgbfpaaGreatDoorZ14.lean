/- The texts S2, Y1, Y2, RL, HLook, HBeg, VLeaf, in this order. -/
import Derived.Test.YtnchjlimkgbfpaaGreatDoorZ13
import Derived.Deep.RegionHeld3
import Derived.Test.YtnchjlimkgbfpaaGreatDoorZ12
import Derived.Test.YtnchjlimkgbfpaaGreatDoorZ01
import Derived.WalkKit
import Derived.WalkLawsBesides
import Derived.WalkSpells
import Derived.Lib.Tables
import Derived.KernelRfl

namespace Go.Proofs.YtnchjlimkgbfpaaGreatDoor
open Go.RowKit
set_option linter.unusedVariables false
set_option maxRecDepth 20000
set_option linter.unusedSimpArgs false
def BytesW (w : World) (v : Value) (l : List (List Int)) : Prop := ∃ m : List (Value × List Int), m.map (·.2) = l ∧ Rws 1 w v (m.map fun y => [y.1]) ∧ ∀ y ∈ m, Octs w y.1 y.2 ∧ y.2.length ≤ 140737488355328
def BoolsW (w : World) (v : Value) (l : List Bool) : Prop := Rws 1 w v (l.map fun b => [Value.bool b])
theorem BytesW.up {w w' : World} {v : Value} {l : List (List Int)} (h : BytesW w v l) (hb : Below w.heap.size w w') : BytesW w' v l := by
  obtain ⟨m, h1, h2, h3⟩ := h
  exact ⟨m, h1, h2.up hb, fun y hy => ⟨(h3 y hy).1.up hb, (h3 y hy).2⟩⟩
theorem BoolsW.up {w w' : World} {v : Value} {l : List Bool} (h : BoolsW w v l) (hb : Below w.heap.size w w') : BoolsW w' v l := Rws.up h hb
theorem BytesW.len {w : World} {v : Value} {l : List (List Int)} (h : BytesW w v l) : ∃ a cap, v = .slice a l.length cap ∧ l.length ≤ cap ∧ cap ≤ maxLen := by
  obtain ⟨m, rfl, h2, _⟩ := h
  obtain ⟨a, cap, e, h1, h2⟩ := h2.len
  rw [List.length_map] at e h1
  rw [List.length_map]
  exact ⟨a, cap, e, h1, h2⟩
theorem BoolsW.len {w : World} {v : Value} {l : List Bool} (h : BoolsW w v l) : ∃ a cap, v = .slice a l.length cap ∧ l.length ≤ cap ∧ cap ≤ maxLen := by
  obtain ⟨a, cap, e, h1, h2⟩ := Rws.len h
  rw [List.length_map] at e h1
  exact ⟨a, cap, e, h1, h2⟩
theorem BytesW.at {w : World} {v : Value} {l : List (List Int)} (h : BytesW w v l) (k : Nat) (hk : k < l.length) : ∃ b off cap ad cd, v = .slice (some ⟨b, off, none⟩) l.length cap ∧ w.cell? ⟨b, off + k, none⟩ = some (.slice ad (l.getD k []).length cd) ∧ Octs w (.slice ad (l.getD k []).length cd) (l.getD k []) ∧ (l.getD k []).length ≤ 140737488355328 := by
  obtain ⟨m, rfl, h2, h3⟩ := h
  rw [List.length_map] at hk ⊢
  obtain ⟨b, off, cap, e, _, _, hc⟩ := h2.at k (by rw [List.length_map]; exact hk)
  rw [List.length_map] at e
  have hr : (m.map fun y => [y.1]).getD k [] = [m[k].1] := by simp [List.getD, hk]
  have hr2 : (m.map (·.2)).getD k [] = m[k].2 := by simp [List.getD, hk]
  rw [hr] at hc
  rw [hr2]
  have h4 := h3 m[k] (List.getElem_mem hk)
  obtain ⟨ad, cd, evd, _⟩ := h4.1.slice
  have c0 := hc 0 _ rfl
  rw [Nat.mul_one, Nat.add_zero] at c0
  rw [evd] at c0 h4
  exact ⟨b, off, cap, ad, cd, e, c0, h4.1, h4.2⟩
theorem BoolsW.at {w : World} {v : Value} {l : List Bool} (h : BoolsW w v l) (k : Nat) (hk : k < l.length) : ∃ b off cap, v = .slice (some ⟨b, off, none⟩) l.length cap ∧ w.cell? ⟨b, off + k, none⟩ = some (.bool (l.getD k false)) := by
  obtain ⟨b, off, cap, e, _, _, hc⟩ := Rws.at h k (by rw [List.length_map]; exact hk)
  rw [List.length_map] at e
  have hr : (l.map fun b => [Value.bool b]).getD k [] = [.bool (l.getD k false)] := by simp [List.getD, hk]
  rw [hr] at hc
  have c0 := hc 0 _ rfl
  rw [Nat.mul_one, Nat.add_zero] at c0
  exact ⟨b, off, cap, e, c0⟩
theorem same_self (l : List Int) (v u : Value) (w : World) (hv : Octs w v l) (hu : Octs w u l) : Calls Tryz.prog 46 #[v, u] w fun e w' => e = .returned (.bool true) ∧ w' = w := by
  refine (same_anyG l l v u w hv hu).mono ?_
  rintro e w' ⟨rfl, rfl⟩
  exact ⟨by simp, rfl⟩
theorem OwnS.keep {w w' : World} {base B : Nat} {s : St} {r : Option Nat} (h : OwnS w base B s) (hg : w.grownBy w' r) (hr : ∀ k, r = some k → k < base ∧ k ≠ B) : OwnS w' base B s := by
  obtain ⟨h0, vf, vn, vs, m, hb, hm, of, on, os, hap, hi1, hi2⟩ := h
  have ne : ∀ {e sz : Nat} {v : Value} {n : Nat} {xs : List Value}, w.ownsRow base e sz v n xs → v.ownBlock = none ∨ v.ownBlock ≠ r := by
    intro e sz v n xs ho
    cases hv : v.ownBlock with
    | none => exact .inl rfl
    | some g =>
      refine .inr fun q => ?_
      have := (ho.lt g hv).1
      have := (hr g q.symm).1
      omega
  refine ⟨h0, vf, vn, vs, m, blk_grown hb hg (fun q => (hr B q.symm).2 rfl), hm, of.far hg (ne of.1.2) (fun y hy => ne (of.2.1 y hy).1), on.far hg (ne on.2.2), os.far hg (ne os.2.2), hap, hi1, hi2⟩
end Go.Proofs.YtnchjlimkgbfpaaGreatDoor

namespace Go.Proofs.YtnchjlimkgbfpaaGreatDoor
open Go.RowKit
set_option linter.unusedVariables false
set_option maxRecDepth 20000
set_option linter.unusedSimpArgs false
def OwnG (w : World) (base : Nat) (v : Value) (m : List FRow) : Prop :=
  OwnR w base 111 3 v (m.map frow) ∧ (∀ y ∈ m, OwnB w base y.1 y.2.2.1 ∧ okRow y) ∧ m.Pairwise (fun y z => Apart y.1 z.1)
theorem OwnG.up {w w' : World} {base : Nat} {v : Value} {m : List FRow} (h : OwnG w base v m) (hb : Below w.heap.size w w') : OwnG w' base v m :=
  ⟨h.1.up hb, fun y hy => ⟨(h.2.1 y hy).1.up hb, (h.2.1 y hy).2⟩, h.2.2⟩
theorem OwnG.far {w w' : World} {base : Nat} {v : Value} {m : List FRow} {r : Option Nat} (h : OwnG w base v m) (hg : w.grownBy w' r) (h1 : v.ownBlock = none ∨ v.ownBlock ≠ r) (h2 : ∀ y ∈ m, y.1.ownBlock = none ∨ y.1.ownBlock ≠ r) : OwnG w' base v m :=
  ⟨h.1.far hg h1, fun y hy => ⟨(h.2.1 y hy).1.far hg (h2 y hy), (h.2.1 y hy).2⟩, h.2.2⟩
theorem OwnG.mono {w : World} {base base' : Nat} {v : Value} {m : List FRow} (h : OwnG w base v m) (hb : base' ≤ base) : OwnG w base' v m :=
  ⟨h.1.mono hb, fun y hy => ⟨(h.2.1 y hy).1.mono hb, (h.2.1 y hy).2⟩, h.2.2⟩
def OwnU (w : World) (base : Nat) (v : Value) (s : St) : Prop := ∃ vf vn vs m, v = .agg #[.int .i64 s.cap, vf, vn, vs, .int .i64 s.next] ∧ m.map (·.2) = s.files ∧ OwnG w base vf m ∧ OwnN w base 147 vn s.names ∧ OwnN w base 147 vs s.safe ∧ Apart vn vs ∧ In64 s.cap ∧ In64 s.next
theorem OwnU.up {w w' : World} {base : Nat} {v : Value} {s : St} (h : OwnU w base v s) (hb : Below w.heap.size w w') : OwnU w' base v s := by
  obtain ⟨vf, vn, vs, m, e, hm, h1, h2, h3, h4⟩ := h
  exact ⟨vf, vn, vs, m, e, hm, h1.up hb, h2.up hb, h3.up hb, h4⟩
theorem OwnU.mono {w : World} {base base' : Nat} {v : Value} {s : St} (h : OwnU w base v s) (hb : base' ≤ base) : OwnU w base' v s := by
  obtain ⟨vf, vn, vs, m, e, hm, h1, h2, h3, h4⟩ := h
  exact ⟨vf, vn, vs, m, e, hm, h1.mono hb, h2.mono hb, h3.mono hb, h4⟩
theorem OwnG.snoc {w' w6 : World} {base : Nat} {vl : Option Addr} {n cl : Nat} {v6 : Value} {m : List FRow} {y : FRow} (h : OwnG w' base (.slice vl n cl) m) (hb : OwnB w' base y.1 y.2.2.1) (hok : okRow y) (hnew : ∀ z ∈ m, Apart z.1 y.1) (o : Obj) (o6 : OwnR w6 base 111 3 v6 (m.map frow ++ [frow y])) (g6 : (w'.alloc o).grownBy w6 (Value.ownBlock (.slice vl n cl))) : OwnG w6 base v6 (m ++ [y]) := by
  have u := up_al (Below.refl w'.heap.size w') o
  have hr := (h.up u).1
  refine ⟨by rw [List.map_append]; exact o6, ?_, ?_⟩
  · intro z hz
    rcases List.mem_append.1 hz with hz | hz
    · have := (h.up u).2.1 z hz
      exact ⟨this.1.far g6 (own_own_ne this.1 hr.2 (by decide)), this.2⟩
    · simp at hz
      subst hz
      exact ⟨(hb.up u).far g6 (own_own_ne (hb.up u) hr.2 (by decide)), hok⟩
  · rw [List.pairwise_append]
    refine ⟨h.2.2, by simp, ?_⟩
    intro a ha b hb'
    simp at hb'
    subst hb'
    exact hnew a ha
def OwnT (w : World) (base B : Nat) (s : St) : Prop := True ∧ ∃ vf vn vs m, w.heap[B]? = some (.cells #[.int .i64 s.cap, vf, vn, vs, .int .i64 s.next] 25) ∧ m.map (·.2) = s.files ∧ OwnG w base vf m ∧ OwnN w base 147 vn s.names ∧ OwnN w base 147 vs s.safe ∧ Apart vn vs ∧ In64 s.cap ∧ In64 s.next
theorem OwnT.up {w w' : World} {base B : Nat} {s : St} (h : OwnT w base B s) (hb : Below w.heap.size w w') : OwnT w' base B s := by
  obtain ⟨h0, vf, vn, vs, m, hb1, hm, h1, h2, h3, h4⟩ := h
  exact ⟨h0, vf, vn, vs, m, blk_up hb1 hb, hm, h1.up hb, h2.up hb, h3.up hb, h4⟩
theorem OwnG.filter {w w' : World} {base : Nat} {v v' : Value} {m : List FRow} (p : FRow → Bool) {r : Option Nat} (h : OwnG w base v m) (hv : OwnR w' base 111 3 v' ((m.filter p).map frow)) (hg : w.grownBy w' v.ownBlock) : OwnG w' base v' (m.filter p) := by
  refine ⟨hv, fun y hy => ?_, h.2.2.filter p⟩
  have h1 := h.2.1 y (List.mem_filter.1 hy).1
  exact ⟨h1.1.far hg (own_own_ne h1.1 h.1.2 (by decide)), h1.2⟩
def OpenT (w : World) (base B : Nat) (s : St) (af : Option Addr) (cf : Nat) (an : Option Addr) (cn : Nat) (as' : Option Addr) (cs' : Nat) (m : List FRow) : Prop :=
  True ∧ w.heap[B]? = some (.cells #[.int .i64 s.cap, .slice af m.length cf, .slice an s.names.length cn, .slice as' s.safe.length cs', .int .i64 s.next] 25) ∧ m.map (·.2) = s.files ∧ OwnG w base (.slice af m.length cf) m ∧
    OwnN w base 147 (.slice an s.names.length cn) s.names ∧ OwnN w base 147 (.slice as' s.safe.length cs') s.safe ∧ Apart (.slice an s.names.length cn) (.slice as' s.safe.length cs') ∧ In64 s.cap ∧ In64 s.next
theorem OpenT.up {w w' : World} {base B : Nat} {s : St} {af : Option Addr} {cf : Nat} {an : Option Addr} {cn : Nat} {as' : Option Addr} {cs' : Nat} {m : List FRow} (h : OpenT w base B s af cf an cn as' cs' m) (hb : Below w.heap.size w w') : OpenT w' base B s af cf an cn as' cs' m := by
  obtain ⟨hB, h1, hm, of, on, os, hap, hi1, hi2⟩ := h
  exact ⟨hB, blk_up h1 hb, hm, of.up hb, on.up hb, os.up hb, hap, hi1, hi2⟩
theorem OwnG.sync {w : World} {base g n c : Nat} {m : List FRow} (h : OwnG w base (.slice (some ⟨g, 0, none⟩) n c) m) (hn : m.length = n) (i : Nat) (hi : i < n) (k : Int) (hk : In64 k) :
    OwnG (w.setCell ⟨g, i * 3 + 2, none⟩ (.int .i64 k)) base (.slice (some ⟨g, 0, none⟩) n c) (m.set i ((m.getD i noF).1, (m.getD i noF).2.1, (m.getD i noF).2.2.1, k)) := by
  have st := OwnR.set h.1 (by rw [List.length_map]; exact hn) i hi 2 (by decide) (.int .i64 k)
  have hmem : m.getD i noF ∈ m := by
    have : i < m.length := by omega
    simp [List.getD, this]
  have hrow : ((m.map frow).getD i []).set 2 (.int .i64 k) = frow ((m.getD i noF).1, (m.getD i noF).2.1, (m.getD i noF).2.2.1, k) := by
    have : i < m.length := by omega
    simp [List.getD, this, frow]
  rw [hrow, ← List.map_set] at st
  refine ⟨st.1, ?_, ?_⟩
  · intro y hy
    rcases List.mem_or_eq_of_mem_set hy with q | q
    · have := h.2.1 y q
      exact ⟨this.1.far st.2.1 (own_own_ne this.1 h.1.2 (by decide)), this.2⟩
    · have := h.2.1 _ hmem
      rw [q]
      exact ⟨this.1.far st.2.1 (own_own_ne this.1 h.1.2 (by decide)), this.2.1, this.2.2.1, this.2.2.2.1, hk⟩
  · refine pairwise_set (by omega) h.2.2 fun j hj hne => ?_
    exact apart_at h.2.2 i j (by omega) hj (fun q => hne q.symm)
theorem OwnG.data {w w1 : World} {base g n c : Nat} {m : List FRow} (h : OwnG w base (.slice (some ⟨g, 0, none⟩) n c) m) (hn : m.length = n) (i : Nat) (hi : i < n) {v' : Value} {d : List Int} (ho : OwnB w1 base v' d) (hg : w.grownBy w1 (m.getD i noF).1.ownBlock) (hnear : Near w (m.getD i noF).1 v') (hd : OctL d ∧ d.length ≤ 140737488355328) :
    OwnG (w1.setCell ⟨g, i * 3 + 1, none⟩ v') base (.slice (some ⟨g, 0, none⟩) n c) (m.set i (v', (m.getD i noF).2.1, d, (m.getD i noF).2.2.2)) := by
  have hmem : m.getD i noF ∈ m := by
    have : i < m.length := by omega
    simp [List.getD, this]
  have hi0 := h.2.1 _ hmem
  have hR1 := h.1.far hg (own_own_ne h.1.2 hi0.1 (by decide))
  have st := OwnR.set hR1 (by rw [List.length_map]; exact hn) i hi 1 (by decide) v'
  have hrow : ((m.map frow).getD i []).set 1 v' = frow (v', (m.getD i noF).2.1, d, (m.getD i noF).2.2.2) := by
    have : i < m.length := by omega
    simp [List.getD, this, frow]
  rw [hrow, ← List.map_set] at st
  have others : ∀ j, j < m.length → j ≠ i → OwnB w1 base (m.getD j noF).1 (m.getD j noF).2.2.1 := by
    intro j hj hne
    have hm : m.getD j noF ∈ m := by simp [List.getD, hj]
    exact (h.2.1 _ hm).1.far hg (apart_at h.2.2 j i hj (by omega) hne)
  refine ⟨st.1, ?_, ?_⟩
  · intro y hy
    obtain ⟨j, hj, rfl⟩ := List.getElem_of_mem hy
    have hj' : j < m.length := by simpa using hj
    rw [List.getElem_set]
    by_cases e : i = j
    · rw [if_pos e]
      exact ⟨ho.far st.2.1 (own_own_ne ho hR1.2 (by decide)), hd.1, hd.2, hi0.2.2.2.1, hi0.2.2.2.2⟩
    · rw [if_neg e]
      have h1 := others j hj' (fun q => e q.symm)
      have e1 : m.getD j noF = m[j] := by simp [List.getD, hj']
      rw [e1] at h1
      exact ⟨h1.far st.2.1 (own_own_ne h1 hR1.2 (by decide)), (h.2.1 m[j] (List.getElem_mem hj')).2⟩
  · refine pairwise_set (by omega) h.2.2 fun j hj hne => ?_
    have hm : m.getD j noF ∈ m := by simp [List.getD, hj]
    exact hnear.apart (apart_at h.2.2 i j (by omega) hj (fun q => hne q.symm)) (h.2.1 _ hm).1
theorem OpenT.cells3 {w : World} {base B : Nat} {s : St} {g cf : Nat} {an : Option Addr} {cn : Nat} {as' : Option Addr} {cs' : Nat} {m : List FRow} (h : OpenT w base B s (some ⟨g, 0, none⟩) cf an cn as' cs' m) (i : Nat) (hi : i < m.length) :
    w.cell? ⟨g, i * 3, none⟩ = some (.int .i64 (m.getD i noF).2.1) ∧ w.cell? ⟨g, i * 3 + 1, none⟩ = some (m.getD i noF).1 ∧ w.cell? ⟨g, i * 3 + 2, none⟩ = some (.int .i64 (m.getD i noF).2.2.2) ∧ ∀ q, w.frozen? ⟨g, q, none⟩ = false := by
  obtain ⟨b, off, cap, e, _, _, hc⟩ := (Rws.own h.2.2.2.1.1).at i (by rw [List.length_map]; exact hi)
  simp at e
  obtain ⟨⟨rfl, rfl⟩, _⟩ := e
  have hr : (m.map frow).getD i [] = frow (m.getD i noF) := by simp [List.getD, hi]
  rw [hr] at hc
  have c0 := hc 0 _ rfl
  have c1 := hc 1 _ rfl
  have c2 := hc 2 _ rfl
  simp only [Nat.zero_add, Nat.add_zero] at c0 c1 c2
  refine ⟨c0, c1, c2, fun q => ?_⟩
  obtain ⟨cur, hh, _⟩ := h.2.2.2.1.1.blk
  exact blk_frozen hh q
theorem OwnU.zero (w : World) (base : Nat) (c n : Int) (hc : In64 c) (hn : In64 n) : OwnU w base (.agg #[.int .i64 c, .slice none 0 0, .slice none 0 0, .slice none 0 0, .int .i64 n]) ⟨c, [], [], [], n⟩ :=
  ⟨_, _, _, [], rfl, rfl, ⟨OwnR.nil _ _ _ _, (fun y hy => by cases hy), List.Pairwise.nil⟩, OwnN.nil _ _ _, OwnN.nil _ _ _, .inl rfl, hc, hn⟩
theorem OwnT.take {w : World} {base B : Nat} {s : St} (h : OwnT w base B s) : ∃ vf vn vs, w.heap[B]? = some (.cells #[.int .i64 s.cap, vf, vn, vs, .int .i64 s.next] 25) ∧ OwnU w base (.agg #[.int .i64 s.cap, vf, vn, vs, .int .i64 s.next]) s := by
  obtain ⟨_, vf, vn, vs, m, hb, hm, of, on, os, hap, hi1, hi2⟩ := h
  exact ⟨vf, vn, vs, hb, vf, vn, vs, m, rfl, hm, of, on, os, hap, hi1, hi2⟩
theorem OwnU.put {w : World} {base : Nat} {s : St} {a b c d e : Value} (h : OwnU w base (.agg #[a, b, c, d, e]) s) {N : Nat} {x0 x1 x2 x3 x4 : Value} (hb : w.heap[N]? = some (.cells #[x0, x1, x2, x3, x4] 25)) :
    OwnT (set5 w N a b c d e) base N s ∧ OwnU (set5 w N a b c d e) base (.agg #[a, b, c, d, e]) s := by
  obtain ⟨vf, vn, vs, m, ev, hm, of, on, os, hap, hi1, hi2⟩ := h
  have g5 := set5_grown w N a b c d e
  have b5 := set5_blk hb a b c d e
  simp at ev
  obtain ⟨rfl, rfl, rfl, rfl, rfl⟩ := ev
  have of5 := of.far g5 (own_blk_ne of.1.2 hb (by decide)) (fun y hy => own_blk_ne (of.2.1 y hy).1 hb (by decide))
  have on5 := on.far g5 (own_blk_ne on.2.2 hb (by decide))
  have os5 := os.far g5 (own_blk_ne os.2.2 hb (by decide))
  exact ⟨⟨trivial, _, _, _, m, b5, hm, of5, on5, os5, hap, hi1, hi2⟩, ⟨_, _, _, m, rfl, hm, of5, on5, os5, hap, hi1, hi2⟩⟩
theorem OwnU.shape {w : World} {base : Nat} {v : Value} {s : St} (h : OwnU w base v s) : ∃ af nf cf an nn cn as' ns cs', v = .agg #[.int .i64 s.cap, .slice af nf cf, .slice an nn cn, .slice as' ns cs', .int .i64 s.next] := by
  obtain ⟨vf, vn, vs, m, rfl, hm, of, on, os, hap, hi1, hi2⟩ := h
  obtain ⟨a1, c1, e1, _, _⟩ := (NamesW.own on).len
  obtain ⟨a2, c2, e2, _, _⟩ := (NamesW.own os).len
  obtain ⟨a3, c3, e3, _, _⟩ := (Rws.own of.1).len
  subst e1
  subst e2
  subst e3
  exact ⟨_, _, _, _, _, _, _, _, _, rfl⟩
theorem OwnT.shape {w : World} {base B : Nat} {s : St} (h : OwnT w base B s) : ∃ af nf cf an nn cn as' ns cs', w.heap[B]? = some (.cells #[.int .i64 s.cap, .slice af nf cf, .slice an nn cn, .slice as' ns cs', .int .i64 s.next] 25) ∧ OwnU w base (.agg #[.int .i64 s.cap, .slice af nf cf, .slice an nn cn, .slice as' ns cs', .int .i64 s.next]) s := by
  obtain ⟨vf, vn, vs, hb, ov⟩ := h.take
  obtain ⟨a4, n4, c4, a5, n5, c5, a7, n7, c7, ev4⟩ := ov.shape
  simp at ev4
  obtain ⟨rfl, rfl, rfl⟩ := ev4
  exact ⟨_, _, _, _, _, _, _, _, _, hb, ov⟩
theorem OwnT.lt {w : World} {base B : Nat} {s : St} (h : OwnT w base B s) : B < w.heap.size := by
  obtain ⟨_, _, _, _, _, hb, _⟩ := h
  exact blk_lt hb
theorem OwnT.keep {w w' : World} {base B : Nat} {s : St} {r : Option Nat} (h : OwnT w base B s) (hg : w.grownBy w' r) (hr : ∀ k, r = some k → k < base ∧ k ≠ B) : OwnT w' base B s := by
  obtain ⟨h0, vf, vn, vs, m, hb, hm, of, on, os, hap, hi1, hi2⟩ := h
  have ne : ∀ {e sz : Nat} {v : Value} {n : Nat} {xs : List Value}, w.ownsRow base e sz v n xs → v.ownBlock = none ∨ v.ownBlock ≠ r := by
    intro e sz v n xs ho
    cases hv : v.ownBlock with
    | none => exact .inl rfl
    | some g =>
      refine .inr fun q => ?_
      have := (ho.lt g hv).1
      have := (hr g q.symm).1
      omega
  refine ⟨h0, vf, vn, vs, m, blk_grown hb hg (fun q => (hr B q.symm).2 rfl), hm, of.far hg (ne of.1.2) (fun y hy => ne (of.2.1 y hy).1), on.far hg (ne on.2.2), os.far hg (ne os.2.2), hap, hi1, hi2⟩
end Go.Proofs.YtnchjlimkgbfpaaGreatDoor

namespace Go.Proofs.YtnchjlimkgbfpaaGreatDoor
open Go.RowKit
set_option linter.unusedVariables false
set_option maxRecDepth 20000
set_option linter.unusedSimpArgs false
set_option maxHeartbeats 400000 in
theorem refCopied_any (l : List Int) (v : Value) (w : World) (hv : Octs w v l) (hl : l.length ≤ 140737488355328) :
    Calls Tryz.prog 95 #[v] w fun e w' => ∃ v', e = .returned v' ∧ OwnB w' w.heap.size v' l ∧ Below w.heap.size w w' := by
  have HV : Hid (Octs w v l) := hv
  clear hv
  go_enter Tryz.func95, Tryz.ntmps95
  go_wp2_with (at_builtin; refine wpList_append_octs _ rfl _ _ rfl w.heap.size _ [] rfl (World.ownsRow_nil _ _ _ _) _ l rfl HV.out ?c1 (Nat.le_refl _) ?_)
  case c1 => simpa using hl
  intro v' w' hown hg
  go_wp2
  go_ret
  refine ⟨_, rfl, hown, ?_⟩
  exact (Below.refl _ _).grown hg (Nat.le_refl _) (by simp [Value.ownBlock])
theorem OwnU.put2 {w : World} {base : Nat} {s : St} {a b c d e : Value} (h : OwnU w base (.agg #[a, b, c, d, e]) s) {N : Nat} {x0 x1 x2 x3 x4 : Value} (hb : w.heap[N]? = some (.cells #[x0, x1, x2, x3, x4] 25)) :
    OwnT (((((w.setCell ⟨N, 0, none⟩ a).setCell ⟨N, 1, none⟩ b).setCell ⟨N, 2, none⟩ c).setCell ⟨N, 3, none⟩ d).setCell ⟨N, 4, none⟩ e) base N s ∧ w.grownBy (((((w.setCell ⟨N, 0, none⟩ a).setCell ⟨N, 1, none⟩ b).setCell ⟨N, 2, none⟩ c).setCell ⟨N, 3, none⟩ d).setCell ⟨N, 4, none⟩ e) (some N) :=
  ⟨(h.put hb).1, set5_grown w N a b c d e⟩
end Go.Proofs.YtnchjlimkgbfpaaGreatDoor

namespace Go.Proofs.YtnchjlimkgbfpaaGreatDoor
open Go.RowKit
set_option linter.unusedVariables false
set_option maxRecDepth 20000
set_option linter.unusedSimpArgs false
set_option maxHeartbeats 8000000 in
set_option maxRecDepth 20000 in
theorem refRead_any (s : St) (name : List Int) (hna : OctL name) (v : Value) (w : World) (hv : StW w v s) :
    Calls Tryz.prog 53 #[v, .string (strOfNums name)] w fun e w' => ∃ v', e = .returned (.tuple #[v', .int .i64 (readP s name).2]) ∧ OwnB w' w.heap.size v' (readP s name).1 ∧ OctL (readP s name).1 ∧ Below w.heap.size w w' := by
  obtain ⟨af, cf, an, cn, as', cs', rfl⟩ := hv.form
  have HV : Hid (StW w (.agg #[.int .i64 s.cap, .slice af s.files.length cf, .slice an s.names.length cn, .slice as' s.safe.length cs', .int .i64 s.next]) s) := hv
  obtain ⟨N, hN⟩ : ∃ N, N = w.heap.size := ⟨_, rfl⟩
  obtain ⟨wx, hwx⟩ : ∃ wx, wx = w.alloc (.cells #[.int .i64 s.cap, .slice af s.files.length cf, .slice an s.names.length cn, .slice as' s.safe.length cs', .int .i64 s.next] 25) := ⟨_, rfl⟩
  have HWx : Hid (w.alloc (.cells #[.int .i64 s.cap, .slice af s.files.length cf, .slice an s.names.length cn, .slice as' s.safe.length cs', .int .i64 s.next] 25) = wx) := hwx.symm
  have b0 : wx.heap[N]? = some (.cells #[.int .i64 s.cap, .slice af s.files.length cf, .slice an s.names.length cn, .slice as' s.safe.length cs', .int .i64 s.next] 25) := by rw [hwx, hN]; exact blk_new w _
  have UX : Hid (Below w.heap.size w wx) := by rw [hwx]; exact up_alloc _ _
  clear hv hwx
  go_enter Tryz.func53, Tryz.ntmps53
  go_wp2_with fail
  rw [HWx.out, ← hN]
  clear HWx hN
  refine (refCheck_any s _ wx (HV.out.up UX.out)).mono ?_
  rintro e w1 ⟨rfl, u⟩
  have U1 : Hid (Below w.heap.size w w1) := up_trans UX.out u
  have B0 := blk_up b0 u
  clear b0 u UX
  cases hc : checkP s
  · have HR : Hid (readP s name = ([], 9)) := by unfold Hid readP; rw [hc]; rfl
    have e9 : errOf false = 9 := rfl
    rw [e9]
    clear e9 hc
    go_wp2_with fail
    go_ret2
    rw [HR.out]
    exact ⟨_, rfl, OwnB.nil _ _, (fun x hx => by cases hx), U1.out⟩
  · have HG : Hid (Good s) := check_good hc
    have e0 : errOf true = 0 := rfl
    rw [e0]
    have HC : Hid (checkP s = true) := hc
    clear e0 hc
    have HSt : Hid (FilesW w1 (.slice af s.files.length cf) s.files ∧ NamesW w1 (.slice an s.names.length cn) s.names) := by
      obtain ⟨vf, vn, vs, ev, hf, hn, hs, _, _⟩ := HV.out.up U1.out
      simp at ev
      obtain ⟨rfl, rfl, rfl⟩ := ev
      exact ⟨hf, hn⟩
    obtain ⟨q0, q1, q2, q3, q4⟩ := box_cells B0
    go_wp2_with fail
    refine (refFind_any s.names name hna _ w1 HSt.out.2).mono ?_
    rintro e w4 ⟨rfl, hw4⟩
    have hw4' : w1 = w4 := hw4.symm
    clear hw4
    subst hw4'
    cases hth : thereN s.names name
    · have hf := find_not HG.out.names.rise hth
      have HR : Hid (readP s name = ([], 71)) := by
        unfold Hid readP
        have hh : hasF s name = false := by unfold hasF; rw [hth]; rfl
        rw [HC.out, hh]
        rfl
      generalize findOf s.names name = fd at *
      clear hth
      go_wp2_with fail
      go_ret2
      rw [HR.out]
      exact ⟨_, rfl, OwnB.nil _ _, (fun x hx => by cases hx), U1.out⟩
    · obtain ⟨hi, e⟩ := there_at hth
      have hf := find_there hth
      obtain ⟨k, hk, ek, _, _⟩ := named HG.out hi
      have hrd := read_at HG.out hi hk ek
      rw [e] at hrd
      have HR : Hid (readP s name = ((s.files[k]).2.1, 0)) := hrd
      have hfk := file_rank HG.out hi
      have hrk : rankF s.files (s.names[rankN s.names name]).2 = k := by
        rw [← ek]
        exact rankF_at HG.out.rise hk
      rw [hrk] at hfk
      rw [hf]
      generalize rankN s.names name = i at *
      clear hf hth hrd hrk
      obtain ⟨b, off, cap', e8, _, _, c0, c1, _⟩ := HSt.out.2.at i hi
      simp at e8
      obtain ⟨rfl, rfl⟩ := e8
      have eid : (s.names.getD i ([], 0)).2 = (s.names[i]).2 := by simp [List.getD, hi]
      rw [eid] at c1
      obtain ⟨g, o2, cap2, u2, e9, _, _, d0, d1, d2, ho, hdl, _⟩ := HSt.out.1.at k hk
      simp at e9
      obtain ⟨rfl, rfl⟩ := e9
      have efl : s.files.getD k (0, [], 0) = s.files[k] := by simp [List.getD, hk]
      rw [efl] at ho hdl
      obtain ⟨ad, cd, rfl, _⟩ := ho.slice
      obtain ⟨dd, hdd⟩ : ∃ dd, dd = (s.files[k]).2.1 := ⟨_, rfl⟩
      rw [← hdd] at ho hdl d1 HR
      have HO : Hid (Octs w1 (.slice ad dd.length cd) dd ∧ dd.length ≤ 140737488355328) := ⟨ho, hdl⟩
      obtain ⟨id, hid⟩ : ∃ id, id = (s.names[i]).2 := ⟨_, rfl⟩
      rw [← hid] at c1 hfk
      have HFk : Hid (fileOf s.files id = (k : Int)) := hfk
      have hii : (i : Int) < (s.names.length : Int) := by omega
      have hkk : (k : Int) < (s.files.length : Int) := by omega
      have hi0 : ¬ (i : Int) < 0 := by omega
      obtain ⟨dn, hdn⟩ : ∃ dn, dn = dd.length := ⟨_, rfl⟩
      have HDn : Hid (dn = dd.length) := hdn
      rw [← hdn] at d1
      clear ho hdl hdd hid hfk eid efl e ek d0 d2 c0 hdn
      have l0 := World.block_lt_of_cell? _ _ q0
      have l1 := World.block_lt_of_cell? _ _ c1
      have l2 := World.block_lt_of_cell? _ _ d1
      simp only at l0 l1 l2
      have HK : Hid (∀ X, Below w1.heap.size w1 X → X.cell? ⟨N, 0, none⟩ = some (.int .i64 s.cap) ∧ X.cell? ⟨N, 1, none⟩ = some (.slice (some ⟨g, o2, none⟩) s.files.length cf) ∧ X.cell? ⟨N, 2, none⟩ = some (.slice (some ⟨b, off, none⟩) s.names.length cn) ∧ X.cell? ⟨N, 3, none⟩ = some (.slice as' s.safe.length cs') ∧ X.cell? ⟨N, 4, none⟩ = some (.int .i64 s.next) ∧ X.cell? ⟨b, off + i * 2 + 1, none⟩ = some (.int .i64 id) ∧ X.cell? ⟨g, o2 + k * 3 + 1, none⟩ = some (.slice ad dn cd)) := by
        intro X hX
        exact ⟨(hX.cell l0).trans q0, (hX.cell l0).trans q1, (hX.cell l0).trans q2, (hX.cell l0).trans q3, (hX.cell l0).trans q4, (hX.cell l1).trans c1, (hX.cell l2).trans d1⟩
      have UD : Hid (Below w1.heap.size w1 w1.drew) := up_dr (Below.refl _ _)
      have HC1 : Hid (∀ X, Below w1.heap.size w1 X → Calls Tryz.prog 96 #[.agg #[.int .i64 s.cap, .slice (some ⟨g, o2, none⟩) s.files.length cf, .slice (some ⟨b, off, none⟩) s.names.length cn, .slice as' s.safe.length cs', .int .i64 s.next], .int .i64 id] X fun e w' => e = .returned (.int .i64 (k : Int)) ∧ Hid (Below w1.heap.size w1 w')) := by
        intro X hX
        rw [← HFk.out]
        refine (refFile_any s.files id _ _ _ _ _ X (HSt.out.1.up hX)).mono ?_
        rintro e w' ⟨rfl, rfl⟩
        exact ⟨rfl, up_al hX _⟩
      have HC2 : Hid (∀ X, Below w1.heap.size w1 X → Calls Tryz.prog 95 #[.slice ad dn cd] X fun e w' => ∃ a5 c5, e = .returned (.slice a5 dn c5) ∧ Hid (OwnB w' w1.heap.size (.slice a5 dn c5) dd ∧ Below w1.heap.size w1 w')) := by
        intro X hX
        have hoX := HO.out.1.up hX
        rw [← HDn.out] at hoX
        refine (refCopied_any dd _ X hoX HO.out.2).mono ?_
        rintro e w' ⟨v', rfl, ob, u⟩
        obtain ⟨a5, c5, ev, _⟩ := (Octs.own ob HO.out.1.1).slice
        rw [← HDn.out] at ev
        subst ev
        exact ⟨a5, c5, rfl, ob.mono hX.size, up_trans hX u⟩
      go_upto_region 6 with fail
      go_region_held3 (fun X => X.cell? ⟨N, 0, none⟩ = some (.int .i64 s.cap) ∧ X.cell? ⟨N, 1, none⟩ = some (.slice (some ⟨g, o2, none⟩) s.files.length cf) ∧ X.cell? ⟨N, 2, none⟩ = some (.slice (some ⟨b, off, none⟩) s.names.length cn) ∧ X.cell? ⟨N, 3, none⟩ = some (.slice as' s.safe.length cs') ∧ X.cell? ⟨N, 4, none⟩ = some (.int .i64 s.next) ∧ X.cell? ⟨b, off + i * 2 + 1, none⟩ = some (.int .i64 id) ∧ X.cell? ⟨g, o2 + k * 3 + 1, none⟩ = some (.slice ad dn cd)) (first | with_reducible exact HK.out _ UD.out | with_reducible exact HK.out _ h5.out | with_reducible exact HK.out _ h6.out.2) (first | (go_at_call 96; with_reducible refine (HC1.out _ UD.out).mono ?_; rintro e w5 ⟨rfl, h5⟩) | (go_at_call 95; with_reducible refine (HC2.out _ h5.out).mono ?_; rintro e w6 ⟨a5, c5, rfl, h6⟩))
      all_goals
        go_wp2_with fail
        go_ret2
        rw [HR.out]
        exact ⟨_, rfl, h6.out.1.mono U1.out.size, HO.out.1.1, up_trans U1.out h6.out.2⟩
end Go.Proofs.YtnchjlimkgbfpaaGreatDoor

namespace Go.Proofs.YtnchjlimkgbfpaaGreatDoor
open Go.RowKit
set_option linter.unusedVariables false
set_option maxRecDepth 20000
set_option linter.unusedSimpArgs false
end Go.Proofs.YtnchjlimkgbfpaaGreatDoor

namespace Go.Proofs.YtnchjlimkgbfpaaGreatDoor
open Go.RowKit
set_option linter.unusedVariables false
set_option maxRecDepth 20000
set_option linter.unusedSimpArgs false
def curL : List Int := [67, 85, 82, 82, 69, 78, 84]
def nxtL : List Int := [110, 101, 120, 116]
def noteA (M D : List Int) : List Ac := [⟨2, M, [], D⟩, ⟨3, M, [], []⟩]
end Go.Proofs.YtnchjlimkgbfpaaGreatDoor

namespace Go.Proofs.YtnchjlimkgbfpaaGreatDoor
open Go.RowKit
def bl (n : Int) : Int := (bitLen n.toNat : Int)
theorem bl_table : ∀ n : Fin 256, Lib.len8 (n.val : Int) = (bitLen n.val : Int) := by decide +kernel
theorem bl_len8 (n : Int) (h0 : 0 ≤ n) (h1 : n ≤ 255) : Lib.len8 n = bl n := by
  have := bl_table ⟨n.toNat, by omega⟩
  unfold bl
  rw [← this]
  congr 1
  show n = ((n.toNat : Nat) : Int)
  omega
theorem bl_shift (n : Int) (b : Nat) (h0 : 0 ≤ n) (h : (2 : Int) ^ b ≤ n) : bl n = b + bl (n / 2 ^ b) := by
  obtain ⟨x, rfl⟩ := Int.eq_ofNat_of_zero_le h0
  have e : ((x : Int) / 2 ^ b).toNat = x / 2 ^ b := by
    have : ((x : Int) / 2 ^ b) = ((x / 2 ^ b : Nat) : Int) := by simp
    rw [this]; rfl
  have hx : 2 ^ b ≤ x := by exact_mod_cast h
  have hd : x / 2 ^ b ≠ 0 := by
    have := Nat.div_pos hx (Nat.two_pow_pos b)
    omega
  unfold bl
  rw [e, Int.toNat_natCast, bitLen_shift x b hd]
  omega
theorem len8_bd (n : Int) (h0 : 0 ≤ n) (h1 : n ≤ 255) : 0 ≤ Lib.len8 n ∧ Lib.len8 n ≤ 8 := by
  rw [bl_len8 n h0 h1]
  have := bitLen_le8 n.toNat (by omega)
  unfold bl
  omega
theorem bl_road (n x : Int) (b : Nat) (h0 : 0 ≤ n) (hb : b = 0 ∨ (2 : Int) ^ b ≤ n) (hx : x = n / 2 ^ b) (h1 : x ≤ 255) : (b : Int) + Lib.len8 x = bl n := by
  have hx0 : 0 ≤ x := by
    rw [hx]; exact Int.ediv_nonneg h0 (Int.le_of_lt (Int.pow_pos (by decide)))
  rw [bl_len8 x hx0 h1, hx]
  rcases hb with rfl | hb
  · simp
  · exact (bl_shift n b h0 hb).symm
set_option maxHeartbeats 400000 in
theorem len64_any (n : Int) (w : World) (h0 : 0 ≤ n) (h1 : n ≤ 18446744073709551615) :
    Calls Tryz.prog 158 #[.int .u64 n] w fun e w' => e = .returned (.int .i64 (bl n)) ∧ w' = w := by
  by_cases c1 : 4294967296 ≤ n
  · by_cases c2 : 65536 ≤ n / 4294967296
    · by_cases c3 : 256 ≤ n / 4294967296 / 65536
      · have q0 : 0 ≤ n / 4294967296 / 65536 / 256 := by omega
        have q1 : n / 4294967296 / 65536 / 256 ≤ 255 := by omega
        obtain ⟨b0, b1⟩ := len8_bd _ q0 q1
        have H : Hid (((56 : Nat) : Int) + Lib.len8 (n / 4294967296 / 65536 / 256) = bl n) := bl_road n _ 56 h0 (.inr (by omega)) (by omega) q1
        go_enter Tryz.func158, Tryz.ntmps158
        go_wp2
        go_ret
        exact ⟨ret_int H.out, rfl⟩
      · have q0 : 0 ≤ n / 4294967296 / 65536 := by omega
        have q1 : n / 4294967296 / 65536 ≤ 255 := by omega
        obtain ⟨b0, b1⟩ := len8_bd _ q0 q1
        have H : Hid (((48 : Nat) : Int) + Lib.len8 (n / 4294967296 / 65536) = bl n) := bl_road n _ 48 h0 (.inr (by omega)) (by omega) q1
        go_enter Tryz.func158, Tryz.ntmps158
        go_wp2
        go_ret
        exact ⟨ret_int H.out, rfl⟩
    · by_cases c3 : 256 ≤ n / 4294967296
      · have q0 : 0 ≤ n / 4294967296 / 256 := by omega
        have q1 : n / 4294967296 / 256 ≤ 255 := by omega
        obtain ⟨b0, b1⟩ := len8_bd _ q0 q1
        have H : Hid (((40 : Nat) : Int) + Lib.len8 (n / 4294967296 / 256) = bl n) := bl_road n _ 40 h0 (.inr (by omega)) (by omega) q1
        go_enter Tryz.func158, Tryz.ntmps158
        go_wp2
        go_ret
        exact ⟨ret_int H.out, rfl⟩
      · have q0 : 0 ≤ n / 4294967296 := by omega
        have q1 : n / 4294967296 ≤ 255 := by omega
        obtain ⟨b0, b1⟩ := len8_bd _ q0 q1
        have H : Hid (((32 : Nat) : Int) + Lib.len8 (n / 4294967296) = bl n) := bl_road n _ 32 h0 (.inr (by omega)) (by omega) q1
        go_enter Tryz.func158, Tryz.ntmps158
        go_wp2
        go_ret
        exact ⟨ret_int H.out, rfl⟩
  · by_cases c2 : 65536 ≤ n
    · by_cases c3 : 256 ≤ n / 65536
      · have q0 : 0 ≤ n / 65536 / 256 := by omega
        have q1 : n / 65536 / 256 ≤ 255 := by omega
        obtain ⟨b0, b1⟩ := len8_bd _ q0 q1
        have H : Hid (((24 : Nat) : Int) + Lib.len8 (n / 65536 / 256) = bl n) := bl_road n _ 24 h0 (.inr (by omega)) (by omega) q1
        go_enter Tryz.func158, Tryz.ntmps158
        go_wp2
        go_ret
        exact ⟨ret_int H.out, rfl⟩
      · have q0 : 0 ≤ n / 65536 := by omega
        have q1 : n / 65536 ≤ 255 := by omega
        obtain ⟨b0, b1⟩ := len8_bd _ q0 q1
        have H : Hid (((16 : Nat) : Int) + Lib.len8 (n / 65536) = bl n) := bl_road n _ 16 h0 (.inr (by omega)) (by omega) q1
        go_enter Tryz.func158, Tryz.ntmps158
        go_wp2
        go_ret
        exact ⟨ret_int H.out, rfl⟩
    · by_cases c3 : 256 ≤ n
      · have q0 : 0 ≤ n / 256 := by omega
        have q1 : n / 256 ≤ 255 := by omega
        obtain ⟨b0, b1⟩ := len8_bd _ q0 q1
        have H : Hid (((8 : Nat) : Int) + Lib.len8 (n / 256) = bl n) := bl_road n _ 8 h0 (.inr (by omega)) (by omega) q1
        go_enter Tryz.func158, Tryz.ntmps158
        go_wp2
        go_ret
        exact ⟨ret_int H.out, rfl⟩
      · have q1 : n ≤ 255 := by omega
        obtain ⟨b0, b1⟩ := len8_bd _ h0 q1
        have H : Hid (((0 : Nat) : Int) + Lib.len8 n = bl n) := bl_road n _ 0 h0 (.inl rfl) (by simp) q1
        go_enter Tryz.func158, Tryz.ntmps158
        go_wp2
        go_ret
        exact ⟨ret_int (by simpa using H.out), rfl⟩
theorem bl_nonneg (n : Int) : 0 ≤ bl n := by unfold bl; omega
def toldOf (f : Int) : Int := 9 - bl (255 - f)
def leadOf (k : Int) : Int := 255 - 255 / 2 ^ (k - 1).toNat
theorem lead_any (k : Int) (w : World) (h0 : 1 ≤ k) (h1 : k ≤ 9) :
    Calls Tryz.prog 134 #[.int .i64 k] w fun e w' => e = .returned (.int .u8 (leadOf k)) ∧ w' = w := by
  have hk : k = 1 ∨ k = 2 ∨ k = 3 ∨ k = 4 ∨ k = 5 ∨ k = 6 ∨ k = 7 ∨ k = 8 ∨ k = 9 := by omega
  rcases hk with rfl | rfl | rfl | rfl | rfl | rfl | rfl | rfl | rfl
  all_goals
    go_enter Tryz.func134, Tryz.ntmps134
    go_wp2
    go_ret
    exact ⟨ret_int (by decide +kernel), rfl⟩
def sizeOf (n : Int) : Int := min (max ((bl n + 6) / 7) 1) 9
theorem bl_le64 (n : Int) (h0 : 0 ≤ n) (h1 : n ≤ 18446744073709551615) : bl n ≤ 64 := by
  unfold bl bitLen
  split
  · omega
  · rename_i h
    have := (Nat.log2_lt h).2 (show n.toNat < 2 ^ 64 by omega)
    omega
theorem size_any (n : Int) (w : World) (h0 : 0 ≤ n) (h1 : n ≤ 18446744073709551615) :
    Calls Tryz.prog 122 #[.int .u64 n] w fun e w' => e = .returned (.int .i64 (sizeOf n)) ∧ w' = w := by
  have b0 := bl_nonneg n
  have b1 := bl_le64 n h0 h1
  go_enter Tryz.func122, Tryz.ntmps122
  go_wp2_with (go_at_call 158; refine (len64_any n _ h0 h1).mono ?_; rintro e w' ⟨rfl, rfl⟩)
  all_goals
    go_ret
    exact ⟨ret_int (by unfold sizeOf; omega), rfl⟩
theorem wrap_u64_id (n : Int) (h0 : 0 ≤ n) (h1 : n ≤ 18446744073709551615) : IntKind.u64.wrap n = n := by
  rw [IntKind.wrap_u64]; omega
end Go.Proofs.YtnchjlimkgbfpaaGreatDoor
