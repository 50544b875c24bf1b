/- Loops over functions, and what was put into a map in one step. -/
import Derived.Test.YtfnddbglopoghaaQKey
import Derived.Test.YtfnddbglopoghaaQStay
import Derived.Maps.OwnIn
import Derived.OrdersIn
namespace Go.Proofs.Ytfnddbglopoghaa
open Go.RowKit Go.Shelf
set_option linter.unusedVariables false
set_option linter.unusedSimpArgs false
attribute [local go_sem] Oper.semAt_some

theorem range_law {g : Operand} {ps : Array Tmp} {assign body : Code} {Q : Exit → Act → World → Prop} {a : Act} {w : World} {n gf : Nat} {lb : Array Value} (hg : a.eval g = .func (.func gf) #[] lb)
    (eg : ∀ args w, (callFunc gf args).run Try.prog w = .ok (.enter gf args) w)
    (h : ∀ r : Loop, r.state = .ready → r.pending = none → r.tmps = a.tmps → r.params = ps → r.assign = assign → r.body = body →
      CallsIn Fence.wide (n - 1) Try.prog gf (#[.func (.yield (w.heap.size + 1)) #[] #[]] ++ lb) ((w.alloc (.deferred (some []))).alloc (.loop r))
      fun e W' => (∃ v, e = .returned v) ∧ ∃ r' : Loop, W'.heap[w.heap.size + 1]? = some (.loop r') ∧ r'.state ≠ .busy ∧
        ((r'.pending = none ∧ Q .normal { a with defers := { target := .collected w.heap.size, args := #[] } :: a.defers } (W'.putObj (w.heap.size + 1) (.loop { r' with state := .exhausted }))) ∨
         (r'.pending = some .ret ∧ Q .ret { a with defers := { target := .collected w.heap.size, args := #[] } :: a.defers } (W'.putObj (w.heap.size + 1) (.loop { r' with state := .exhausted }))))) :
    (Code.rangeFunc g ps assign body).wpIn Fence.wide n Try.prog Q a w := by
  refine wpIn_rangeFunc ?_
  intro fn hfn
  have hent := run_enterLoop_outer (P := Try.prog) (w := w) fn a.tmps ps assign body
  obtain ⟨r, hr⟩ : ∃ r : Loop, r = { state := .ready, pending := none, fn, tmps := a.tmps, params := ps, assign, body, defers := w.heap.size } := ⟨_, rfl⟩
  have hh := h r (by rw [hr]) (by rw [hr]) (by rw [hr]) (by rw [hr]) (by rw [hr]) (by rw [hr])
  rw [← hr] at hent
  clear h hr
  generalize (w.alloc (.deferred (some []))).alloc (.loop r) = W1 at *
  refine ⟨w.heap.size + 1, [{ target := .collected w.heap.size, args := #[] }], W1, { target := .fn (.func gf) lb, args := #[.func (.yield (w.heap.size + 1)) #[] #[]] }, W1, gf, #[.func (.yield (w.heap.size + 1)) #[] #[]] ++ lb, W1, hent, ?_, fun _ _ => trivial, ?_, fun h => (by cases h), ?_⟩
  · simp only [resolve, hg]
    simp [go_sem]
  · simp [invoke, go_sem, eg]
  · refine hh.mono ?_
    rintro e W' ⟨⟨v, rfl⟩, r', h1, h2, h4⟩
    refine ⟨r'.pending, _, run_endLoop (P := Try.prog) h1 h2, ?_⟩
    rcases h4 with ⟨h3, h4⟩ | ⟨h3, h4⟩
    · rw [h3] at h4 ⊢
      exact h4
    · rw [h3] at h4 ⊢
      exact wpIn_ret h4

/-- The marks of loops over functions. -/
def marks (ds : List Nat) : List Deferred := ds.map fun b => { target := .collected b, args := #[] }

/-- A world that is another one but for the blocks ds. -/
structure But (ds : List Nat) (W W' : World) : Prop where
  os : W'.os = W.os
  tape : W'.tape = W.tape
  output : W'.output = W.output
  size : W'.heap.size = W.heap.size
  block : ∀ k, k ∉ ds → W'.heap[k]? = W.heap[k]?

theorem leaves_marks {n : Nat} {fn : Func} {tmps : Array Value} {R : Ending → World → Prop} : ∀ (ds : List Nat) (W : World), ds.Nodup → (∀ b ∈ ds, W.heap[b]? = some (.deferred (some []))) →
    (∀ W', But ds W W' → LeavesInM Fence.wide n Try.prog fn tmps R [] .returning W') → LeavesInM Fence.wide n Try.prog fn tmps R (marks ds) .returning W
  | [], W, _, _, h => h W ⟨rfl, rfl, rfl, rfl, fun _ _ => rfl⟩
  | b :: ds, W, hn, hb, h => by
    refine ⟨by simp, .inl ⟨b, W.putObj b (.deferred none), rfl, run_takeDeferred (hb b (List.mem_cons_self ..)), ?_⟩⟩
    obtain ⟨hbn, hn'⟩ := List.nodup_cons.1 hn
    refine leaves_marks ds _ hn' (fun c hc => ?_) (fun W' hW' => h W' ?_)
    · have hne : c ≠ b := fun e => hbn (by rw [← e]; exact hc)
      rw [World.putObj_heap_other hne]
      exact hb c (List.mem_cons_of_mem _ hc)
    · refine ⟨hW'.os, hW'.tape, hW'.output, by rw [hW'.size]; simp [World.putObj], fun k hk => ?_⟩
      have hne : k ≠ b := fun e => hk (by rw [e]; exact List.mem_cons_self ..)
      rw [hW'.block k (fun e => hk (List.mem_cons_of_mem _ e)), World.putObj_heap_other hne]

theorem But.grown {ds : List Nat} {W W' : World} (h : But ds W W') {B : Nat} (hB : ∀ b ∈ ds, B ≤ b) : Below B W W' :=
  ⟨h.os, h.tape, h.output, Nat.le_of_eq h.size.symm, fun k hk => h.block k (fun e => by have := hB k e; omega)⟩

theorem But.cell {ds : List Nat} {W W' : World} (h : But ds W W') {B i : Nat} (hB : B ∉ ds) : W'.cell? ⟨B, i, none⟩ = W.cell? ⟨B, i, none⟩ := by
  unfold World.cell?
  simp only [h.block B hB]

theorem wpOpIn_mono2 {F : Fence} {n : Nat} {P : Program} {ops : Array Oper} {Q : Exit → Act → World → Prop} {i : Nat} {K K' : Act → World → Prop} {a : Act} {w : World} (l : Nat) (hd : ∀ o c, ops[i]? = some o → o.op ≠ .defer c) (hF : F.round = none) (hK : ∀ a w, K a w → K' a w)
    (h : wpOpIn F n P ops Q i K a w) : wpOpIn (F.inRound l) n P ops Q i K' a w := by
  have h := wpOpIn_mono hK h
  unfold wpOpIn at *
  cases ho : ops[i]? with
  | none => rw [ho] at h; exact h
  | some o =>
    rw [ho] at h
    have hdo : ∀ c, o.op ≠ .defer c := fun c => hd o c ho
    simp only at h ⊢
    by_cases hw : Region.wanted o (yielded ops a.tmps) = true
    · rw [if_pos hw] at h ⊢
      unfold Oper.wpIn at *
      refine ⟨h.1, ?_⟩
      have h := h.2
      rw [Oper.semAt_eq _ _ _ hdo] at h ⊢
      generalize (execOp a.eval o).run P w = r at *
      cases r with
      | ok x w' => cases x <;> exact h
      | halt x w' => cases x <;> exact h
    · rw [if_neg hw] at h ⊢
      exact h
theorem wpAnyIn_round {F : Fence} {n : Nat} {P : Program} {md : Region.Mode} {ops : Array Oper} {Q : Exit → Act → World → Prop} (l : Nat) (hd : ∀ (i : Nat) o c, ops[i]? = some o → o.op ≠ .defer c) (hF : F.round = none) : ∀ (fuel : Nat) (listed : Array Bool) (a : Act) (w : World),
    wpAnyIn F n P md ops Q fuel listed a w → wpAnyIn (F.inRound l) n P md ops Q fuel listed a w
  | 0, listed, a, w, h => h
  | fuel + 1, listed, a, w, h => ⟨h.1, fun i hi => wpOpIn_mono2 l (hd i) hF (fun a w => wpAnyIn_round l hd hF fuel _ a w) (h.2 i hi)⟩
theorem wpIn_then {F : Fence} {n : Nat} {P : Program} {c : Code} {K : Act → World → Prop} {Q : Exit → Act → World → Prop} {a : Act} {w : World} (h : c.wpIn F n P (Exit.then K (fun _ _ _ => False)) a w) : c.wpIn F n P (Exit.then K Q) a w :=
  wpIn_mono h (fun e a w hq => by
    cases e with
    | normal => exact hq
    | _ => exact hq.elim)
def noDefer (ops : Array Oper) : Bool := ops.toList.all fun o => match o.op with | .defer _ => false | _ => true
theorem noDefer_spec {ops : Array Oper} (h : noDefer ops = true) (i : Nat) (o : Oper) (c : _) (ho : ops[i]? = some o) : o.op ≠ .defer c := by
  intro e
  have hm : o ∈ ops.toList := by
    rw [← Array.getElem?_toList] at ho
    exact List.mem_of_getElem? ho
  have := List.all_eq_true.1 h o hm
  rw [e] at this
  cases this

theorem MapW.inc {w : World} {b : Nat} {T : List En} (h : MapW w b T) {x : En} (hx : mayE x = true) :
    ∃ (v0 : Value) (st : Nat) (w2 w3 : World), (Instr.mapEntry 60 (.map (some b)) (.agg #[.string x.key, .int .i64 x.seq])).run Try.prog w = .ok (.tuple #[v0, .int .i64 (st : Int)]) w2 ∧
      (Instr.lookup 60 (.map (some b)) (.agg #[.string x.key, .int .i64 x.seq]) false).run Try.prog w2 = .ok (.int .i64 (cntT T x : Int)) w2 ∧
      (Instr.entryStore 60 (.map (some b)) (.int .i64 (st : Int)) (.int .i64 ((cntT T x : Int) + 1))).run Try.prog w2 = .ok () w3 ∧ MapW w3 b (T ++ [x]) ∧ w.grownBy w3 (some b) := by
  obtain ⟨v0, st, w2, e1, h2, e2, g1, s1⟩ := h.entry hx
  obtain ⟨w3, e3, h3, g2, s2⟩ := h2.stored e2
  exact ⟨v0, st, w2, w3, e1, h2.look hx, e3, h3, grown_trans g1 g2⟩
end Go.Proofs.Ytfnddbglopoghaa
