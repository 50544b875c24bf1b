/- A state in memory of the call's own: its block, its lists, its files' octets, all apart; fresh lists. -/
import Derived.Test.YtoceddpjkodfkaaP7
namespace Go.Proofs.Ytoceddpjkodfkaa
open Go.RowKit
set_option linter.unusedVariables false

/-! ### blocks -/
theorem blk_cell {w : World} {B : Nat} {cs : Array Value} {t : TypeId} {fr : Nat × Nat} (h : w.heap[B]? = some (.cells cs t fr)) (i : Nat) (x : Value) (hi : cs[i]? = some x) : w.cell? ⟨B, i, none⟩ = some x := by
  simp only [World.cell?, h]
  simpa using hi
theorem blk_frozen {w : World} {B : Nat} {cs : Array Value} {t : TypeId} (h : w.heap[B]? = some (.cells cs t)) (i : Nat) : w.frozen? ⟨B, i, none⟩ = false := by
  simp only [World.frozen?, h]
  simp
theorem blk_set {w : World} {B : Nat} {cs : Array Value} {t : TypeId} {fr : Nat × Nat} (h : w.heap[B]? = some (.cells cs t fr)) (i : Nat) (u : Value) : (w.setCell ⟨B, i, none⟩ u).heap[B]? = some (.cells (cs.setIfInBounds i u) t fr) := by
  simp only [World.setCell, Array.getElem?_modify, h]
  simp
theorem blk_lt {w : World} {B : Nat} {o : Obj} (h : w.heap[B]? = some o) : B < w.heap.size := (Array.getElem?_eq_some_iff.1 h).1
theorem blk_up {w w' : World} {B : Nat} {o : Obj} (h : w.heap[B]? = some o) (hb : Below w.heap.size w w') : w'.heap[B]? = some o := (hb.block B (blk_lt h)).trans h
theorem blk_grown {w w' : World} {B : Nat} {o : Obj} {r : Option Nat} (h : w.heap[B]? = some o) (hg : w.grownBy w' r) (hne : some B ≠ r) : w'.heap[B]? = some o := (hg.block B (blk_lt h) hne).trans h
theorem blk_new (w : World) (o : Obj) : (w.alloc o).heap[w.heap.size]? = some o := by
  show (w.heap.push o)[w.heap.size]? = _
  simp
theorem grown_set (w : World) (a : Addr) (u : Value) : w.grownBy (w.setCell a u) (some a.block) :=
  ⟨rfl, rfl, rfl, by simp [World.setCell], fun k hk hne => Below.heap_setCell w a u k (fun e => hne (by rw [e]))⟩
theorem grown_up {w w' : World} (h : Below w.heap.size w w') (r : Option Nat) : w.grownBy w' r := ⟨h.os, h.tape, h.output, h.size, fun k hk _ => h.block k hk⟩
theorem grown_trans {a b c : World} {r : Option Nat} (h : a.grownBy b r) (k : b.grownBy c r) : a.grownBy c r :=
  ⟨k.os.trans h.os, k.tape.trans h.tape, k.output.trans h.output, Nat.le_trans h.size k.size, fun i hi hne => (k.block i (Nat.lt_of_lt_of_le hi h.size) hne).trans (h.block i hi hne)⟩
theorem below_grown {B : Nat} {w w' : World} {r : Option Nat} (hg : w.grownBy w' r) (hB : B ≤ w.heap.size) (hr : ∀ k, r = some k → B ≤ k) : Below B w w' := (Below.refl B w).grown hg hB hr

/-- Two slices do not lie in one block. -/
def Apart (u v : Value) : Prop := u.ownBlock = none ∨ u.ownBlock ≠ v.ownBlock
theorem Apart.symm {u v : Value} (h : Apart u v) : Apart v u := by
  unfold Apart at *
  cases hv : v.ownBlock with
  | none => exact .inl rfl
  | some b =>
    refine .inr ?_
    rcases h with h | h
    · rw [h]; simp
    · rw [hv] at h; exact fun e => h e.symm

theorem own_blk_ne {w : World} {base : Nat} {e t : TypeId} {sz : Nat} {v : Value} {n : Nat} {xs : List Value} {B : Nat} {cs : Array Value} {fr : Nat × Nat} (h : w.ownsRow base e sz v n xs) (hb : w.heap[B]? = some (.cells cs t fr)) (hne : e ≠ t) : v.ownBlock = none ∨ v.ownBlock ≠ some B := by
  rcases h.2 with ⟨rfl, _⟩ | ⟨g, cap, cur, rfl, _, hg, _⟩
  · exact .inl rfl
  · refine .inr ?_
    simp only [Value.ownBlock]
    intro q
    injection q with q
    subst q
    rw [hg] at hb
    simp at hb
    exact hne hb.2.1

theorem own_own_ne {w : World} {b1 b2 : Nat} {e1 e2 : TypeId} {s1 s2 : Nat} {v1 v2 : Value} {n1 n2 : Nat} {x1 x2 : List Value} (h1 : w.ownsRow b1 e1 s1 v1 n1 x1) (h2 : w.ownsRow b2 e2 s2 v2 n2 x2) (hne : e1 ≠ e2) : v1.ownBlock = none ∨ v1.ownBlock ≠ v2.ownBlock := by
  rcases h2.2 with ⟨rfl, _⟩ | ⟨g, cap, cur, rfl, _, hg, _⟩
  · rcases h1.2 with ⟨rfl, _⟩ | ⟨g, cap, cur, rfl, _⟩
    · exact .inl rfl
    · exact .inr (by simp [Value.ownBlock])
  · exact own_blk_ne h1 hg hne

/-- What lay in w is in another block than what was made later. -/
theorem apart_new {w w' : World} {b1 : Nat} {e1 e2 : TypeId} {s1 s2 : Nat} {v1 v2 : Value} {n1 n2 : Nat} {x1 x2 : List Value} (h1 : w.ownsRow b1 e1 s1 v1 n1 x1) (h2 : w'.ownsRow w.heap.size e2 s2 v2 n2 x2) : Apart v1 v2 := by
  unfold Apart
  cases hv : v1.ownBlock with
  | none => exact .inl rfl
  | some b =>
    refine .inr ?_
    intro q
    have a1 := (h1.lt b hv).2
    have a2 := (h2.lt b q.symm).1
    omega

/-! ### names and files of the call's own -/
theorem OwnN.far {w w' : World} {base : Nat} {e : TypeId} {v : Value} {l : List (List Int × Int)} {r : Option Nat} (h : OwnN w base e v l) (hg : w.grownBy w' r) (hne : v.ownBlock = none ∨ v.ownBlock ≠ r) : OwnN w' base e v l := ⟨h.1, h.2.far hg hne⟩
theorem OwnN.mono {w : World} {base base' : Nat} {e : TypeId} {v : Value} {l : List (List Int × Int)} (h : OwnN w base e v l) (hb : base' ≤ base) : OwnN w base' e v l := ⟨h.1, h.2.mono hb⟩

/-- A file as it stands in its row: its octets' slice, its number, its octets, how many are synced. -/
abbrev FRow := Value × Int × List Int × Int

def okRow (y : FRow) : Prop := OctL y.2.2.1 ∧ y.2.2.1.length ≤ 140737488355328 ∧ In64 y.2.1 ∧ In64 y.2.2.2

/-- Files in memory of the call's own. -/
def OwnF (w : World) (base : Nat) (v : Value) (m : List FRow) : Prop :=
  OwnR w base 71 3 v (m.map frow) ∧ (∀ y ∈ m, OwnB w base y.1 y.2.2.1 ∧ okRow y) ∧ m.Pairwise (fun y z => Apart y.1 z.1)

theorem OwnB.up {w w' : World} {base : Nat} {v : Value} {l : List Int} (h : OwnB w base v l) (hb : Below w.heap.size w w') : OwnB w' base v l := own_up h hb
theorem OwnB.far {w w' : World} {base : Nat} {v : Value} {l : List Int} {r : Option Nat} (h : OwnB w base v l) (hg : w.grownBy w' r) (hne : v.ownBlock = none ∨ v.ownBlock ≠ r) : OwnB w' base v l := World.ownsRow.kept h hg hne
theorem OwnB.mono {w : World} {base base' : Nat} {v : Value} {l : List Int} (h : OwnB w base v l) (hb : base' ≤ base) : OwnB w base' v l := by
  obtain ⟨h1, h2⟩ := h
  refine ⟨h1, ?_⟩
  rcases h2 with h0 | ⟨g, cap, cur, rfl, hg, r⟩
  · exact .inl h0
  · exact .inr ⟨g, cap, cur, rfl, Nat.le_trans hb hg, r⟩

theorem OwnF.up {w w' : World} {base : Nat} {v : Value} {m : List FRow} (h : OwnF w base v m) (hb : Below w.heap.size w w') : OwnF w' base v m :=
  ⟨h.1.up hb, fun y hy => ⟨(h.2.1 y hy).1.up hb, (h.2.1 y hy).2⟩, h.2.2⟩
theorem OwnF.far {w w' : World} {base : Nat} {v : Value} {m : List FRow} {r : Option Nat} (h : OwnF w base v m) (hg : w.grownBy w' r) (h1 : v.ownBlock = none ∨ v.ownBlock ≠ r) (h2 : ∀ y ∈ m, y.1.ownBlock = none ∨ y.1.ownBlock ≠ r) : OwnF w' base v m :=
  ⟨h.1.far hg h1, fun y hy => ⟨(h.2.1 y hy).1.far hg (h2 y hy), (h.2.1 y hy).2⟩, h.2.2⟩
theorem OwnF.mono {w : World} {base base' : Nat} {v : Value} {m : List FRow} (h : OwnF w base v m) (hb : base' ≤ base) : OwnF w base' v m :=
  ⟨h.1.mono hb, fun y hy => ⟨(h.2.1 y hy).1.mono hb, (h.2.1 y hy).2⟩, h.2.2⟩
theorem FilesW.own {w : World} {base : Nat} {v : Value} {m : List FRow} (h : OwnF w base v m) : FilesW w v (m.map (·.2)) :=
  ⟨m, rfl, Rws.own h.1, fun y hy => ⟨Octs.own (h.2.1 y hy).1 (h.2.1 y hy).2.1, (h.2.1 y hy).2.2⟩⟩

/-- A state in memory of the call's own. -/
def OwnV (w : World) (base : Nat) (v : Value) (s : St) : Prop := ∃ vf vn vs m, v = .agg #[.int .i64 s.cap, vf, vn, vs, .int .i64 s.next] ∧ m.map (·.2) = s.files ∧ OwnF w base vf m ∧ OwnN w base 73 vn s.names ∧ OwnN w base 73 vs s.safe ∧ Apart vn vs ∧ In64 s.cap ∧ In64 s.next

theorem OwnV.up {w w' : World} {base : Nat} {v : Value} {s : St} (h : OwnV w base v s) (hb : Below w.heap.size w w') : OwnV w' base v s := by
  obtain ⟨vf, vn, vs, m, e, hm, h1, h2, h3, h4⟩ := h
  exact ⟨vf, vn, vs, m, e, hm, h1.up hb, h2.up hb, h3.up hb, h4⟩
theorem StW.own {w : World} {base : Nat} {v : Value} {s : St} (h : OwnV w base v s) : StW w v s := by
  obtain ⟨vf, vn, vs, m, e, hm, h1, h2, h3, _, h5, h6⟩ := h
  exact ⟨vf, vn, vs, e, by rw [← hm]; exact FilesW.own h1, NamesW.own h2, NamesW.own h3, h5, h6⟩
theorem OwnV.mono {w : World} {base base' : Nat} {v : Value} {s : St} (h : OwnV w base v s) (hb : base' ≤ base) : OwnV w base' v s := by
  obtain ⟨vf, vn, vs, m, e, hm, h1, h2, h3, h4⟩ := h
  exact ⟨vf, vn, vs, m, e, hm, h1.mono hb, h2.mono hb, h3.mono hb, h4⟩

/-! ### fresh lists -/
theorem Try.info73 : (Try.prog.info? 73).map (fun i => (i.zero, i.size, i.bytes)) = some (some (.agg #[.string ⟨#[]⟩, .int .i64 0]), 2, 24) := by kernel_rfl
theorem Try.info71 : (Try.prog.info? 71).map (fun i => (i.zero, i.size, i.bytes)) = some (some (.agg #[.int .i64 0, .slice none 0 0, .int .i64 0]), 3, 40) := by kernel_rfl

theorem frow_one {w : World} (m : List FRow) (h : ∀ y ∈ m, Octs w y.1 y.2.2.1) : ∀ cs ∈ m.map frow, ∀ u ∈ cs, u.oneCell' = true := by
  intro cs hcs u hu
  obtain ⟨p, hp, rfl⟩ := List.mem_map.1 hcs
  simp [frow] at hu
  rcases hu with rfl | rfl | rfl
  · rfl
  · obtain ⟨a, cap, e, _⟩ := (h p hp).slice
    rw [e]
    rfl
  · rfl

set_option maxHeartbeats 400000 in
theorem freshN_any (l : List (List Int × Int)) (v : Value) (w : World) (hv : NamesW w v l) (hl : l.length ≤ 4398046511104) :
    Calls Try.prog 44 #[v] w fun e w' => ∃ v', e = .returned v' ∧ OwnN w' w.heap.size 73 v' l ∧ Below w.heap.size w w' := by
  have HV : Hid (NamesW w v l) := hv
  clear hv
  go_enter Try.func44, Try.ntmps44
  go_wp2_with (at_builtin; refine wpList_append_rows _ rfl _ _ 31 73 (.agg #[.string ⟨#[]⟩, .int .i64 0]) 2 24 rfl Try.underlying31 Try.info73 rfl (by decide) w.heap.size _ [] rfl (OwnR.nil _ _ _ _) _ (l.map nrow) rfl HV.out.2 (nrow_one l) ?c1 ?c2 (Nat.le_refl _) ?_)
  try case c1 => (simp only [List.length_nil, List.length_map]; omega)
  try case c2 => (simp only [List.length_nil, List.length_map, maxLen]; omega)
  intro v' w' hown hg
  go_wp2
  go_ret
  refine ⟨_, rfl, ⟨HV.out.1, hown⟩, ?_⟩
  exact (Below.refl _ _).grown hg (Nat.le_refl _) (by simp [Value.ownBlock])

set_option maxHeartbeats 400000 in
theorem freshF_any (m : List FRow) (v : Value) (w : World) (hv : Rws 3 w v (m.map frow)) (ho : ∀ y ∈ m, Octs w y.1 y.2.2.1) (hl : m.length ≤ 4398046511104) :
    Calls Try.prog 57 #[v] w fun e w' => ∃ v', e = .returned v' ∧ OwnR w' w.heap.size 71 3 v' (m.map frow) ∧ Below w.heap.size w w' := by
  have HV : Hid (Rws 3 w v (m.map frow) ∧ ∀ cs ∈ m.map frow, ∀ u ∈ cs, u.oneCell' = true) := ⟨hv, frow_one m ho⟩
  clear hv ho
  go_enter Try.func57, Try.ntmps57
  go_wp2_with (at_builtin; refine wpList_append_rows _ rfl _ _ 30 71 (.agg #[.int .i64 0, .slice none 0 0, .int .i64 0]) 3 40 rfl Try.underlying30 Try.info71 rfl (by decide) w.heap.size _ [] rfl (OwnR.nil _ _ _ _) _ (m.map frow) rfl HV.out.1 HV.out.2 ?c1 ?c2 (Nat.le_refl _) ?_)
  try case c1 => (simp only [List.length_nil, List.length_map]; omega)
  try case c2 => (simp only [List.length_nil, List.length_map, maxLen]; omega)
  intro v' w' hown hg
  go_wp2
  go_ret
  refine ⟨_, rfl, hown, ?_⟩
  exact (Below.refl _ _).grown hg (Nat.le_refl _) (by simp [Value.ownBlock])

set_option maxHeartbeats 400000 in
theorem freshB_any (l : List Int) (v : Value) (w : World) (hv : Octs w v l) (hl : l.length ≤ 140737488355328) :
    Calls Try.prog 47 #[v] w fun e w' => ∃ v', e = .returned v' ∧ OwnB w' w.heap.size v' l ∧ Below w.heap.size w w' := by
  have HV : Hid (Octs w v l) := hv
  clear hv
  go_enter Try.func47, Try.ntmps47
  go_wp2_with (at_builtin; refine wpList_append_octs _ rfl _ _ rfl w.heap.size _ [] rfl (OwnB.nil _ _) _ l rfl HV.out ?c1 (Nat.le_refl _) ?_)
  try case c1 => (simp only [List.length_nil]; omega)
  intro v' w' hown hg
  go_wp2
  go_ret
  refine ⟨_, rfl, hown, ?_⟩
  exact (Below.refl _ _).grown hg (Nat.le_refl _) (by simp [Value.ownBlock])
end Go.Proofs.Ytoceddpjkodfkaa
