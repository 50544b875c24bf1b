/- Replay of layer 6: what it answers of any log. -/
import Derived.Test.YtgphkddcfcmaiaaWFirst
import Derived.Test.YtgphkddcfcmaiaaWEnt
namespace Go.Proofs.Ytgphkddcfcmaiaa
open Go.RowKit SumPlain
set_option linter.unusedVariables false

/-- A batch in memory: where its changes lie, its number, its changes. -/
def brw (y : Value × Int × List Chg) : List Value := [.int .i64 y.2.1, y.1]
/-- Batches in memory of the call's own; t is the type of a batch. -/
def BatsO (t : TypeId) (w : World) (base : Nat) (v : Value) (ys : List (Value × Int × List Chg)) : Prop := OwnR w base t 2 v (ys.map brw) ∧ ∀ y ∈ ys, OwnC w base y.1 y.2.2
theorem BatsO.up {t : TypeId} {w w' : World} {base : Nat} {v : Value} {ys : List (Value × Int × List Chg)} (h : BatsO t w base v ys) (hb : Below w.heap.size w w') : BatsO t w' base v ys := ⟨h.1.up hb, fun y hy => (h.2 y hy).up hb⟩
theorem BatsO.nil (t : TypeId) (w : World) (base : Nat) : BatsO t w base (.slice none 0 0) [] := ⟨OwnR.nil _ _ _ _, fun y hy => by cases hy⟩
theorem BatsO.shape {t : TypeId} {w : World} {base : Nat} {v : Value} {ys : List (Value × Int × List Chg)} (h : BatsO t w base v ys) : ∃ a c, v = .slice a ys.length c := by
  obtain ⟨a, c, e, _⟩ := (Rws.own h.1).len
  rw [List.length_map] at e
  exact ⟨a, c, e⟩
theorem OwnC.apart {t : TypeId} {w w' : World} {b1 b2 : Nat} {v u : Value} {cs : List Chg} {rows : List (List Value)} (h : OwnC w b1 v cs) (ho : OwnR w b2 t 2 u rows) (ht : (67 : TypeId) ≠ t) (hg : w.grownBy w' u.ownBlock) : OwnC w' b1 v cs :=
  OwnR.far h hg (own_own_ne h.2 ho.2 ht)
/-- One more batch is laid behind. -/
theorem BatsO.snoc {t : TypeId} {w w' : World} {base : Nat} {v v' : Value} {ys : List (Value × Int × List Chg)} (h : BatsO t w base v ys) (ht : (67 : TypeId) ≠ t) {y : Value × Int × List Chg} (hy : OwnC w base y.1 y.2.2)
    (ho : OwnR w' base t 2 v' (ys.map brw ++ [brw y])) (hg : w.grownBy w' v.ownBlock) : BatsO t w' base v' (ys ++ [y]) := by
  refine ⟨by rw [List.map_append]; exact ho, fun z hz => ?_⟩
  rcases List.mem_append.1 hz with q | q
  · exact (h.2 z q).apart h.1 ht hg
  · simp at q
    subst q
    exact hy.apart h.1 ht hg

theorem Try.info26 : (Try.prog.info? 26).map (fun i => (i.zero, i.size, i.bytes)) = some (some (.agg #[.int .i64 0, .slice none 0 0]), 2, 32) := by kernel_rfl
theorem Try.info24 : (Try.prog.info? 24).map (fun i => (i.zero, i.size, i.bytes)) = some (some (.agg #[.int .i64 0, .slice none 0 0]), 2, 32) := by kernel_rfl

def pairB (g : Int × List Chg × Nat) : Int × List Chg := (g.1, g.2.1)

/-- The number behind the last. -/
def NextOk (ys : List (Value × Int × List Chg)) (nx : Option Int) : Prop :=
  (ys = [] ∧ nx = none) ∨ ∃ ys0 y, ys = ys0 ++ [y] ∧ nx = some (y.2.1 + (y.2.2.length : Int)) ∧ (1 ≤ y.2.1 ∧ y.2.1 ≤ 1099511627712) ∧ (1 ≤ y.2.2.length ∧ y.2.2.length ≤ 64) ∧ (ys.length : Int) ≤ y.2.1

theorem NextOk.len {ys : List (Value × Int × List Chg)} {nx : Option Int} (h : NextOk ys nx) : ys.length ≤ 1099511627776 := by
  rcases h with ⟨rfl, _⟩ | ⟨ys0, y, rfl, _, h1, _, h2⟩
  · simp
  · omega

theorem NextOk.snoc {ys : List (Value × Int × List Chg)} {nx : Option Int} (h : NextOk ys nx) {v : Value} {s : Int} {cs : List Chg} (hc : checkOf s cs = 0) (hs : nx = none ∨ nx = some s) : NextOk (ys ++ [(v, s, cs)]) (some (s + (cs.length : Int))) := by
  obtain ⟨h1, h2, _⟩ := checkOf_ok hc
  refine .inr ⟨ys, (v, s, cs), rfl, rfl, h1, h2, ?_⟩
  rcases h with ⟨rfl, _⟩ | ⟨ys0, y, rfl, hn, h3, h4, h5⟩
  · simp; omega
  · rcases hs with e | e
    · rw [e] at hn; cases hn
    · rw [e] at hn
      injection hn with hn
      simp only [List.length_append, List.length_cons, List.length_nil] at h5 ⊢
      omega

/-- How a replay ends. -/
def ReplEnd (x : Int) (t : TypeId) (b : List Int) (w : World) (e : Ending) (w' : World) : Prop :=
  ∃ ys a c, e = .returned (.tuple #[.slice a (ys : List (Value × Int × List Chg)).length c, .int .i64 ((sizeR (replOf x b) : Nat) : Int)]) ∧ BatsO t w' w.heap.size (.slice a ys.length c) ys ∧ ys.map (·.2) = (replOf x b).map pairB ∧ Below w.heap.size w w'

structure RInv (x : Int) (t : TypeId) (b : List Int) (w wr : World) (ys : List (Value × Int × List Chg)) (pre : List (Int × List Chg × Nat)) (nx : Option Int) (off f : Nat) (a : Option Addr) (c : Nat) : Prop where
  at_ : ReplAt x b pre nx off f
  nxt : NextOk ys nx
  eq : ys.map (·.2) = pre.map pairB
  own : BatsO t wr w.heap.size (.slice a ys.length c) ys
  up : Below w.heap.size w wr

theorem RInv.ends {x : Int} {t : TypeId} {b : List Int} {w wr w' : World} {ys : List (Value × Int × List Chg)} {pre : List (Int × List Chg × Nat)} {nx : Option Int} {off f : Nat} {a : Option Addr} {c : Nat} (h : RInv x t b w wr ys pre nx off f a c)
    (he : firstP x (b.drop off) = none) (hb : Below wr.heap.size wr w') : ReplEnd x t b w (.returned (.tuple #[.slice a ys.length c, .int .i64 (off : Int)])) w' := by
  obtain ⟨h1, h2⟩ := h.at_.ends he
  refine ⟨ys, a, c, by rw [h2], h.own.up hb, ?_, up_trans h.up hb⟩
  rw [h1]
  exact h.eq
theorem RInv.stops {x : Int} {t : TypeId} {b : List Int} {w wr w' : World} {ys : List (Value × Int × List Chg)} {pre : List (Int × List Chg × Nat)} {nx : Option Int} {off f : Nat} {a : Option Addr} {c : Nat} (h : RInv x t b w wr ys pre nx off f a c)
    {s : Int} {cs : List Chg} {n : Nat} (he : firstP x (b.drop off) = some (s, cs, n)) (hs : ¬ (nx = none ∨ nx = some s)) (hb : Below wr.heap.size wr w') : ReplEnd x t b w (.returned (.tuple #[.slice a ys.length c, .int .i64 (off : Int)])) w' := by
  obtain ⟨h1, h2⟩ := h.at_.stops he hs
  refine ⟨ys, a, c, by rw [h2], h.own.up hb, ?_, up_trans h.up hb⟩
  rw [h1]
  exact h.eq
theorem RInv.goes {x : Int} {t : TypeId} {b : List Int} {w wr wb w3 : World} {ys : List (Value × Int × List Chg)} {pre : List (Int × List Chg × Nat)} {nx : Option Int} {off f : Nat} {a : Option Addr} {c : Nat} (h : RInv x t b w wr ys pre nx off f a c)
    (hx : ∀ y ∈ b, 0 ≤ y ∧ y ≤ 255) {s : Int} {cs : List Chg} {n : Nat} (he : firstP x (b.drop off) = some (s, cs, n)) (hs : nx = none ∨ nx = some s) (ht : (67 : TypeId) ≠ t) (hb : Below wr.heap.size wr wb)
    {av : Value} (hy : OwnC wb w.heap.size av cs) {v3 : Value} (ho : OwnR w3 w.heap.size t 2 v3 (ys.map brw ++ [[.int .i64 s, av]])) (hg : wb.grownBy w3 (Value.slice a ys.length c).ownBlock) :
    ∃ a3 c3, v3 = .slice a3 (ys.length + 1) c3 ∧ RInv x t b w w3 (ys ++ [(av, s, cs)]) (pre ++ [(s, cs, n)]) (some (s + (cs.length : Int))) (off + n) (f - 1) a3 c3 := by
  obtain ⟨h1, h2, h3⟩ := h.at_.goes hx he hs
  have hc := (firstP_some (fun y hy => hx y (List.mem_of_mem_drop hy)) he).2.2.2.2.2.2
  have hB : BatsO t w3 w.heap.size v3 (ys ++ [(av, s, cs)]) := (h.own.up hb).snoc ht (y := (av, s, cs)) hy ho hg
  obtain ⟨a3, c3, rfl⟩ := hB.shape
  have hl : (ys ++ [(av, s, cs)]).length = ys.length + 1 := by simp
  refine ⟨a3, c3, by rw [hl], ⟨h1, h.nxt.snoc hc hs, ?_, hB, ?_⟩⟩
  · rw [List.map_append, List.map_append, h.eq]
    rfl
  · have hu := up_trans h.up hb
    exact hu.grown hg hu.size (fun k hk => ((h.own.up hb).1.2.lt k hk).1)
end Go.Proofs.Ytgphkddcfcmaiaa
