/- A loop over a function whose body goes on or returns; the marks that such loops leave among a call's deferred ones. -/
import Derived.Test.YtpjmieiajhhbaaaDoorDIter
namespace Go.Proofs.YtpjmieiajhhbaaaDoor
open Go.RowKit Go.Shelf
set_option linter.unusedVariables false
attribute [local go_sem] Oper.semAt_some

theorem range_law {g : Operand} {ps : Array Tmp} {assign body : Code} {Q : Exit → Act → World → Prop} {a : Act} {w : World} {n gf : Nat} {lb : Array Value} (hg : a.eval g = .func (.func gf) #[] lb)
    (eg : ∀ args w, (callFunc gf args).run Tryd.prog w = .ok (.enter gf args) w)
    (h : ∀ r : Loop, r.state = .ready → r.pending = none → r.tmps = a.tmps → r.params = ps → r.assign = assign → r.body = body →
      CallsIn Fence.wide (n - 1) Tryd.prog gf (#[.func (.yield (w.heap.size + 1)) #[] #[]] ++ lb) ((w.alloc (.deferred (some []))).alloc (.loop r))
      fun e W' => (∃ v, e = .returned v) ∧ ∃ r' : Loop, W'.heap[w.heap.size + 1]? = some (.loop r') ∧ r'.state ≠ .busy ∧
        ((r'.pending = none ∧ Q .normal { a with defers := { target := .collected w.heap.size, args := #[] } :: a.defers } (W'.putObj (w.heap.size + 1) (.loop { r' with state := .exhausted }))) ∨
         (r'.pending = some .ret ∧ Q .ret { a with defers := { target := .collected w.heap.size, args := #[] } :: a.defers } (W'.putObj (w.heap.size + 1) (.loop { r' with state := .exhausted }))))) :
    (Code.rangeFunc g ps assign body).wpIn Fence.wide n Tryd.prog Q a w := by
  refine wpIn_rangeFunc ?_
  intro fn hfn
  have hent := run_enterLoop_outer (P := Tryd.prog) (w := w) fn a.tmps ps assign body
  obtain ⟨r, hr⟩ : ∃ r : Loop, r = { state := .ready, pending := none, fn, tmps := a.tmps, params := ps, assign, body, defers := w.heap.size } := ⟨_, rfl⟩
  have hh := h r (by rw [hr]) (by rw [hr]) (by rw [hr]) (by rw [hr]) (by rw [hr]) (by rw [hr])
  rw [← hr] at hent
  clear h hr
  generalize (w.alloc (.deferred (some []))).alloc (.loop r) = W1 at *
  refine ⟨w.heap.size + 1, [{ target := .collected w.heap.size, args := #[] }], W1, { target := .fn (.func gf) lb, args := #[.func (.yield (w.heap.size + 1)) #[] #[]] }, W1, gf, #[.func (.yield (w.heap.size + 1)) #[] #[]] ++ lb, W1, hent, ?_, fun _ _ => trivial, ?_, fun h => (by cases h), ?_⟩
  · simp only [resolve, hg]
    simp [go_sem]
  · simp [invoke, go_sem, eg]
  · refine hh.mono ?_
    rintro e W' ⟨⟨v, rfl⟩, r', h1, h2, h4⟩
    refine ⟨r'.pending, _, run_endLoop (P := Tryd.prog) h1 h2, ?_⟩
    rcases h4 with ⟨h3, h4⟩ | ⟨h3, h4⟩
    · rw [h3] at h4 ⊢
      exact h4
    · rw [h3] at h4 ⊢
      exact wpIn_ret h4

/-- The marks of loops over functions. -/
def marks (ds : List Nat) : List Deferred := ds.map fun b => { target := .collected b, args := #[] }

/-- A world that is another one but for the blocks ds. -/
structure But (ds : List Nat) (W W' : World) : Prop where
  os : W'.os = W.os
  tape : W'.tape = W.tape
  output : W'.output = W.output
  size : W'.heap.size = W.heap.size
  block : ∀ k, k ∉ ds → W'.heap[k]? = W.heap[k]?

theorem leaves_marks {n : Nat} {fn : Func} {tmps : Array Value} {R : Ending → World → Prop} : ∀ (ds : List Nat) (W : World), ds.Nodup → (∀ b ∈ ds, W.heap[b]? = some (.deferred (some []))) →
    (∀ W', But ds W W' → LeavesInM Fence.wide n Tryd.prog fn tmps R [] .returning W') → LeavesInM Fence.wide n Tryd.prog fn tmps R (marks ds) .returning W
  | [], W, _, _, h => h W ⟨rfl, rfl, rfl, rfl, fun _ _ => rfl⟩
  | b :: ds, W, hn, hb, h => by
    refine ⟨by simp, .inl ⟨b, W.putObj b (.deferred none), rfl, run_takeDeferred (hb b (List.mem_cons_self ..)), ?_⟩⟩
    obtain ⟨hbn, hn'⟩ := List.nodup_cons.1 hn
    refine leaves_marks ds _ hn' (fun c hc => ?_) (fun W' hW' => h W' ?_)
    · have hne : c ≠ b := fun e => hbn (by rw [← e]; exact hc)
      rw [World.putObj_heap_other hne]
      exact hb c (List.mem_cons_of_mem _ hc)
    · refine ⟨hW'.os, hW'.tape, hW'.output, by rw [hW'.size]; simp [World.putObj], fun k hk => ?_⟩
      have hne : k ≠ b := fun e => hk (by rw [e]; exact List.mem_cons_self ..)
      rw [hW'.block k (fun e => hk (List.mem_cons_of_mem _ e)), World.putObj_heap_other hne]

theorem But.grown {ds : List Nat} {W W' : World} (h : But ds W W') {B : Nat} (hB : ∀ b ∈ ds, B ≤ b) : Below B W W' :=
  ⟨h.os, h.tape, h.output, Nat.le_of_eq h.size.symm, fun k hk => h.block k (fun e => by have := hB k e; omega)⟩

theorem But.cell {ds : List Nat} {W W' : World} (h : But ds W W') {B i : Nat} (hB : B ∉ ds) : W'.cell? ⟨B, i, none⟩ = W.cell? ⟨B, i, none⟩ := by
  unfold World.cell?
  simp only [h.block B hB]
end Go.Proofs.YtpjmieiajhhbaaaDoor
