/- Blocks; a record through its own block; octets that lie in new memory. -/
import Derived.Test.YtgphkddcfcmaiaaFPut
namespace Go.Proofs.Ytgphkddcfcmaiaa
open Go.RowKit SumPlain
set_option linter.unusedVariables false

/-! ### blocks -/
theorem blk_cell {w : World} {B : Nat} {cs : Array Value} {t : TypeId} {fr : Nat × Nat} (h : w.heap[B]? = some (.cells cs t fr)) (i : Nat) (x : Value) (hi : cs[i]? = some x) : w.cell? ⟨B, i, none⟩ = some x := by
  simp only [World.cell?, h]
  simpa using hi
theorem blk_frozen {w : World} {B : Nat} {cs : Array Value} {t : TypeId} (h : w.heap[B]? = some (.cells cs t)) (i : Nat) : w.frozen? ⟨B, i, none⟩ = false := by
  simp only [World.frozen?, h]
  simp
theorem blk_set {w : World} {B : Nat} {cs : Array Value} {t : TypeId} {fr : Nat × Nat} (h : w.heap[B]? = some (.cells cs t fr)) (i : Nat) (u : Value) : (w.setCell ⟨B, i, none⟩ u).heap[B]? = some (.cells (cs.setIfInBounds i u) t fr) := by
  simp only [World.setCell, Array.getElem?_modify, h]
  simp
theorem blk_lt {w : World} {B : Nat} {o : Obj} (h : w.heap[B]? = some o) : B < w.heap.size := (Array.getElem?_eq_some_iff.1 h).1
theorem blk_up {w w' : World} {B : Nat} {o : Obj} (h : w.heap[B]? = some o) (hb : Below w.heap.size w w') : w'.heap[B]? = some o := (hb.block B (blk_lt h)).trans h
theorem blk_grown {w w' : World} {B : Nat} {o : Obj} {r : Option Nat} (h : w.heap[B]? = some o) (hg : w.grownBy w' r) (hne : some B ≠ r) : w'.heap[B]? = some o := (hg.block B (blk_lt h) hne).trans h
theorem blk_new (w : World) (o : Obj) : (w.alloc o).heap[w.heap.size]? = some o := by
  show (w.heap.push o)[w.heap.size]? = _
  simp
theorem grown_set (w : World) (a : Addr) (u : Value) : w.grownBy (w.setCell a u) (some a.block) :=
  ⟨rfl, rfl, rfl, by simp [World.setCell], fun k hk hne => Below.heap_setCell w a u k (fun e => hne (by rw [e]))⟩
theorem grown_up {w w' : World} (h : Below w.heap.size w w') (r : Option Nat) : w.grownBy w' r := ⟨h.os, h.tape, h.output, h.size, fun k hk _ => h.block k hk⟩
theorem grown_trans {a b c : World} {r : Option Nat} (h : a.grownBy b r) (k : b.grownBy c r) : a.grownBy c r :=
  ⟨k.os.trans h.os, k.tape.trans h.tape, k.output.trans h.output, Nat.le_trans h.size k.size, fun i hi hne => (k.block i (Nat.lt_of_lt_of_le hi h.size) hne).trans (h.block i hi hne)⟩
theorem below_grown {B : Nat} {w w' : World} {r : Option Nat} (hg : w.grownBy w' r) (hB : B ≤ w.heap.size) (hr : ∀ k, r = some k → B ≤ k) : Below B w w' := (Below.refl B w).grown hg hB hr

/-- Two slices do not lie in one block. -/
def Apart (u v : Value) : Prop := u.ownBlock = none ∨ u.ownBlock ≠ v.ownBlock
theorem Apart.symm {u v : Value} (h : Apart u v) : Apart v u := by
  unfold Apart at *
  cases hv : v.ownBlock with
  | none => exact .inl rfl
  | some b =>
    refine .inr ?_
    rcases h with h | h
    · rw [h]; simp
    · rw [hv] at h; exact fun e => h e.symm

theorem own_blk_ne {w : World} {base : Nat} {e t : TypeId} {sz : Nat} {v : Value} {n : Nat} {xs : List Value} {B : Nat} {cs : Array Value} {fr : Nat × Nat} (h : w.ownsRow base e sz v n xs) (hb : w.heap[B]? = some (.cells cs t fr)) (hne : e ≠ t) : v.ownBlock = none ∨ v.ownBlock ≠ some B := by
  rcases h.2 with ⟨rfl, _⟩ | ⟨g, cap, cur, rfl, _, hg, _⟩
  · exact .inl rfl
  · refine .inr ?_
    simp only [Value.ownBlock]
    intro q
    injection q with q
    subst q
    rw [hg] at hb
    simp at hb
    exact hne hb.2.1

theorem own_own_ne {w : World} {b1 b2 : Nat} {e1 e2 : TypeId} {s1 s2 : Nat} {v1 v2 : Value} {n1 n2 : Nat} {x1 x2 : List Value} (h1 : w.ownsRow b1 e1 s1 v1 n1 x1) (h2 : w.ownsRow b2 e2 s2 v2 n2 x2) (hne : e1 ≠ e2) : v1.ownBlock = none ∨ v1.ownBlock ≠ v2.ownBlock := by
  rcases h2.2 with ⟨rfl, _⟩ | ⟨g, cap, cur, rfl, _, hg, _⟩
  · rcases h1.2 with ⟨rfl, _⟩ | ⟨g, cap, cur, rfl, _⟩
    · exact .inl rfl
    · exact .inr (by simp [Value.ownBlock])
  · exact own_blk_ne h1 hg hne


/-- A record is stored into a block. -/
def set2 (w : World) (N : Nat) (a b : Value) : World := (w.setCell ⟨N, 0, none⟩ a).setCell ⟨N, 1, none⟩ b
theorem set2_blk {w : World} {N : Nat} {t : TypeId} {x0 x1 : Value} (h : w.heap[N]? = some (.cells #[x0, x1] t)) (a b : Value) : (set2 w N a b).heap[N]? = some (.cells #[a, b] t) :=
  blk_set (blk_set h 0 a) 1 b
theorem set2_grown (w : World) (N : Nat) (a b : Value) : w.grownBy (set2 w N a b) (some N) :=
  grown_trans (grown_set w ⟨N, 0, none⟩ a) (grown_set _ ⟨N, 1, none⟩ b)

/-- A record through the result's own block, and two numbers. -/
theorem results_rec3 {fn : Func} {t : TypeId} (h : fn.results = #[.cell 2 t, .tmp 3, .tmp 4]) (hl : t = 86 ∨ t = 88) (tmps : Array Value) (w : World) {N : Nat} {a b : Value} (ht : tmps.getD 2 undef = .pointer (some ⟨N, 0, none⟩))
    (hc : w.heap[N]? = some (.cells #[a, b] t)) : (results fn tmps).run Try.prog w = .ok (.tuple #[.agg #[a, b], tmps.getD 3 undef, tmps.getD 4 undef]) w := by
  have c0 := blk_cell hc 0 a rfl
  have c1 := blk_cell hc 1 b rfl
  have ht' : tmps[2]?.getD undef = .pointer (some ⟨N, 0, none⟩) := by simpa using ht
  rcases hl with rfl | rfl
  · simp only [results, h]
    simp [ht', go_sem, c0, c1]
  · simp only [results, h]
    simp [ht', go_sem, c0, c1]

theorem results_rec {fn : Func} {t : TypeId} (h : fn.results = #[.cell 2 t]) (hl : t = 86 ∨ t = 88) (tmps : Array Value) (w : World) {N : Nat} {a b : Value} (ht : tmps.getD 2 undef = .pointer (some ⟨N, 0, none⟩))
    (hc : w.heap[N]? = some (.cells #[a, b] t)) : (results fn tmps).run Try.prog w = .ok (.agg #[a, b]) w := by
  have c0 := blk_cell hc 0 a rfl
  have c1 := blk_cell hc 1 b rfl
  have ht' : tmps[2]?.getD undef = .pointer (some ⟨N, 0, none⟩) := by simpa using ht
  rcases hl with rfl | rfl
  · simp only [results, h]
    simp [ht', go_sem, c0, c1]
  · simp only [results, h]
    simp [ht', go_sem, c0, c1]

/-- The slice v holds the octets l, and lies in no block below base. -/
def NewB (w : World) (base : Nat) (v : Value) (l : List Int) : Prop := Octs w v l ∧ ∀ g, v.ownBlock = some g → base ≤ g

theorem NewB.far {w w' : World} {base : Nat} {v : Value} {l : List Int} (h : NewB w base v l) {r : Option Nat} (hg : w.grownBy w' r) (hr : ∀ g, v.ownBlock = some g → r ≠ some g) : NewB w' base v l := by
  refine ⟨h.1.moved ?_, h.2⟩
  intro b off x hne hb hc
  have hlt : b < w.heap.size := by
    rcases Nat.lt_or_ge b w.heap.size with q | q
    · exact q
    · simp [World.cell?, Array.getElem?_eq_none q] at hc
  rw [hg.cell_far ⟨b, off, none⟩ hlt (fun e => hr b hb e.symm)]
  exact hc
theorem NewB.up {w w' : World} {base : Nat} {v : Value} {l : List Int} (h : NewB w base v l) (hb : Below w.heap.size w w') : NewB w' base v l := ⟨h.1.up hb, h.2⟩
theorem NewB.mono {w : World} {base base' : Nat} {v : Value} {l : List Int} (h : NewB w base v l) (hb : base' ≤ base) : NewB w base' v l := ⟨h.1, fun g e => Nat.le_trans hb (h.2 g e)⟩
theorem OwnB.fresh {w : World} {base : Nat} {v : Value} {l : List Int} (h : OwnB w base v l) (hx : ∀ x ∈ l, 0 ≤ x ∧ x ≤ 255) : NewB w base v l := ⟨Octs.own h hx, fun g e => (h.lt g e).1⟩
theorem NewB.nil (w : World) (base : Nat) : NewB w base (.slice none 0 0) [] := (OwnB.nil w base).fresh (by simp)
end Go.Proofs.Ytgphkddcfcmaiaa
