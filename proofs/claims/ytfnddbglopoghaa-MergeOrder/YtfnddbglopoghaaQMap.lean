/- A map whose keys are stamps (a key and a number): how often each was put. -/
import Derived.Test.YtfnddbglopoghaaNMath
import Derived.Test.YtfnddbglopoghaaMOrd
import Derived.Test.YtfnddbglopoghaaLBlk
import Derived.DeepKeys4
import Derived.MapViews
import Derived.WideKeyEntry
import Derived.WideKeyArgs2
import Derived.RangeFuncRecord
namespace Go.Proofs.Ytfnddbglopoghaa
open Go.RowKit Go.WideMaps Go.WideElems Go.MapKept
open Go.ChangeMaps (setBlock heap_setBlock_same heap_setBlock_other)
set_option linter.unusedVariables false
set_option linter.unusedSimpArgs false
set_option maxRecDepth 100000

def stV (x : En) : Value := .agg #[.string x.key, .int .i64 x.seq]
theorem stV_iff {x y : En} : stV x = stV y ↔ twin x y = true := by
  unfold stV twin
  simp only [Value.agg.injEq, Bool.and_eq_true, beq_iff_eq, decide_eq_true_eq]
  constructor
  · intro h
    simp at h
    exact ⟨by rw [h.1], h.2⟩
  · rintro ⟨h1, h2⟩
    rw [ByteArray.toList_eq, ByteArray.toList_eq] at h1
    have := WideShapes.bytes_inj h1
    rw [this, h2]
theorem laidOutQ : laidOutB Try.prog = true := by kernel_rfl
theorem rowSt : (72 : TypeId) < Try.prog.types.size := of_decide_eq_true (by kernel_rfl)
theorem deepSt : Try.prog.keyTypeAt (Try.prog.types.size + 1) 72 = true := by kernel_rfl
theorem wideSt : (match Try.prog.underlying 72 with | some (.array _ _) | some (.struct _) => true | _ => false) = true := by kernel_rfl
theorem lawSt : KeyLaw Try.prog 72 := deep_law_laid laidOutQ (m := 2) (by omega) rowSt (by kernel_rfl) wideSt
theorem cellsSt : Try.prog.cellsOf 72 = 2 := by kernel_rfl
theorem cells9 : Try.prog.cellsOf 9 = 1 := by kernel_rfl
theorem cells3 : Try.prog.cellsOf 3 = 1 := by kernel_rfl
theorem formedSt (x : En) : (stV x).formed Try.prog 72 = true := by
  unfold stV
  simp [Value.formed, Try.underlying72, cellsSt]
theorem mayE_parts {x : En} (h : mayE x = true) : x.key.size ≤ 96 ∧ 1 ≤ x.seq ∧ x.seq ≤ 1099511627776 := by
  unfold mayE at h
  simp only [decide_eq_true_eq] at h
  omega
theorem key_st (x : En) (h : mayE x = true) : ∃ l, keyOf Try.prog 72 (stV x) = some l := by
  obtain ⟨h1, h2, h3⟩ := mayE_parts h
  have hw : (Lit.int .i64 x.seq).wf = true := WalkArith.wf_i64 ⟨by omega, by omega⟩
  have hd : DataW.Trod (H := Unit) (fun _ => ()) Try.prog default 0 (fun _ => true) true 72 (stV x) (.agg [.lit (.string x.key.data.toList), .lit (.int .i64 x.seq)]) [] := by
    refine ⟨2, ?_⟩
    unfold stV
    have hs : x.key.size ≤ maxLen := by unfold maxLen; omega
    simp [Value.cells, DataW.trod, Try.underlying72, Try.underlying9, Try.underlying3, cellsSt, cells9, cells3, hs, hw]
  exact ⟨_, (keyOf_asKey deepSt wideSt (formedSt x) hd).1⟩

/-- How often the stamp of y was put. -/
def cntT (T : List En) (y : En) : Nat := T.countP (twin y)
theorem twin_self (x : En) : twin x x = true := by unfold twin; simp
theorem twinQ_symm {x y : En} (h : twin x y = true) : twin y x = true := stV_iff.1 (stV_iff.2 h).symm
theorem twin_trans {x y z : En} (h : twin x y = true) (k : twin y z = true) : twin x z = true := stV_iff.1 ((stV_iff.2 h).trans (stV_iff.2 k))
theorem cntT_twin {T : List En} {x y : En} (h : twin x y = true) : cntT T x = cntT T y := by
  unfold cntT
  congr 1
  funext z
  cases q : twin y z with
  | true => exact twin_trans h q
  | false =>
    cases q2 : twin x z with
    | false => rfl
    | true => rw [← q, twin_trans (twinQ_symm h) q2]
theorem cntT_snoc (T : List En) (x y : En) : cntT (T ++ [x]) y = cntT T y + (if twin y x then 1 else 0) := by
  unfold cntT
  rw [List.countP_append, List.countP_cons, List.countP_nil]
  simp
theorem cntT_le (T : List En) (y : En) : cntT T y ≤ T.length := List.countP_le_length
theorem cntT_pos {T : List En} {y : En} : 0 < cntT T y ↔ ∃ x ∈ T, twin y x = true := by unfold cntT; exact List.countP_pos_iff
/-- Block b is the map of the stamps T. -/
def MapW (w : World) (b : Nat) (T : List En) : Prop :=
  ∃ es clock, w.heap[b]? = some (.map es clock) ∧ Stamped es clock ∧ (∀ e ∈ es.toList, ∃ y, mayE y = true ∧ e.key = stV y ∧ e.val = .int .i64 (cntT T y : Int)) ∧ (∀ y, 0 < cntT T y → ∃ e ∈ es.toList, e.key = stV y)
theorem MapW.made (w : World) : MapW (w.alloc (.map #[] 0)) w.heap.size [] :=
  ⟨#[], 0, blk_new w _, stamped_empty 0, (fun e h => by simp at h), (fun y h => by simp [cntT] at h)⟩
theorem MapW.lt {w : World} {b : Nat} {T : List En} (h : MapW w b T) : b < w.heap.size := by
  obtain ⟨es, clock, hb, _⟩ := h
  exact blk_lt hb
theorem MapW.kept {w w' : World} {b : Nat} {T : List En} {r : Option Nat} (h : MapW w b T) (hg : w.grownBy w' r) (hne : some b ≠ r) : MapW w' b T := by
  obtain ⟨es, clock, hb, h1, h2, h3⟩ := h
  exact ⟨es, clock, blk_grown hb hg hne, h1, h2, h3⟩
theorem MapW.up {w w' : World} {b : Nat} {T : List En} (h : MapW w b T) (hb : Below w.heap.size w w') : MapW w' b T := h.kept (grown_up hb none) (by simp)
theorem keys_st {es : Array MapEntry} {T : List En} (h : ∀ e ∈ es.toList, ∃ y, mayE y = true ∧ e.key = stV y ∧ e.val = .int .i64 (cntT T y : Int)) : ∀ e ∈ es.toList, ∃ l, keyOf Try.prog 72 e.key = some l := by
  intro e he
  obtain ⟨y, h1, h2, _⟩ := h e he
  rw [h2]
  exact key_st y h1
theorem zero3 (w : World) : (zeroValue 3).run Try.prog w = .ok (.int .i64 0) w := by kernel_rfl
theorem MapW.look {w : World} {b : Nat} {T : List En} (h : MapW w b T) {x : En} (hx : mayE x = true) : (Instr.lookup 60 (.map (some b)) (stV x) false).run Try.prog w = .ok (.int .i64 (cntT T x : Int)) w := by
  obtain ⟨es, clock, hb, h1, h2, h3⟩ := h
  obtain ⟨l, hl⟩ := key_st x hx
  have hk := keys_st h2
  rcases lawSt.find w hl es.toList hk with ⟨f1, f2⟩ | ⟨j, e0, f1, f2, f3⟩
  · have h0 : cntT T x = 0 := by
      rcases Nat.eq_zero_or_pos (cntT T x) with q | q
      · exact q
      · obtain ⟨e, he, ek⟩ := h3 x q
        exact absurd ek (f2 e he)
    simp [Instr.lookup, run_underlying Try.underlying60, MapKept.run_getObj_map hb, lawSt.check w _ hl, f1, zero3, Result.andThen, h0]
  · obtain ⟨y, hy, ey, ev⟩ := h2 e0 (List.mem_of_getElem? f2)
    have ht : twin y x = true := stV_iff.1 (by rw [← ey, f3])
    rw [cntT_twin ht] at ev
    simp [Instr.lookup, run_underlying Try.underlying60, MapKept.run_getObj_map hb, lawSt.check w _ hl, f1, Result.andThen, ev]
/-- An entry of that mark has the stamp of x. -/
def EntAt (w : World) (b st : Nat) (x : En) : Prop := ∃ es clock, w.heap[b]? = some (.map es clock) ∧ ∃ e ∈ es.toList, e.born = st ∧ e.key = stV x
theorem EntAt.up {w w' : World} {b st : Nat} {x : En} (h : EntAt w b st x) (hb : Below w.heap.size w w') : EntAt w' b st x := by
  obtain ⟨es, clock, h1, h2⟩ := h
  exact ⟨es, clock, blk_up h1 hb, h2⟩
theorem grown_block (w : World) (b : Nat) (o : Obj) : w.grownBy (setBlock w b o) (some b) := by
  refine ⟨rfl, rfl, rfl, by simp [setBlock], fun k hk hne => ?_⟩
  have : b ≠ k := fun e => hne (by rw [e])
  simp [setBlock, Array.getElem?_setIfInBounds_ne this]
theorem MapW.entry {w : World} {b : Nat} {T : List En} (h : MapW w b T) {x : En} (hx : mayE x = true) :
    ∃ (v0 : Value) (st : Nat) (w1 : World), (Instr.mapEntry 60 (.map (some b)) (stV x)).run Try.prog w = .ok (.tuple #[v0, goInt st]) w1 ∧ MapW w1 b T ∧ EntAt w1 b st x ∧ w.grownBy w1 (some b) ∧ w1.heap.size = w.heap.size := by
  obtain ⟨es, clock, hb, h1, h2, h3⟩ := h
  obtain ⟨l, hl⟩ := key_st x hx
  have hk := keys_st h2
  rcases lawSt.find w hl es.toList hk with ⟨f1, f2⟩ | ⟨j, e0, f1, f2, f3⟩
  · have h0 : cntT T x = 0 := by
      rcases Nat.eq_zero_or_pos (cntT T x) with q | q
      · exact q
      · obtain ⟨e, he, ek⟩ := h3 x q
        exact absurd ek (f2 e he)
    refine ⟨.int .i64 0, clock, setBlock w b (.map (es.push ⟨stV x, .int .i64 0, clock⟩) (clock + 1)), ?_, ?_, ?_, grown_block _ _ _, by simp [setBlock]⟩
    · simp [Instr.mapEntry, run_underlying Try.underlying60, MapKept.run_getObj_map hb, lawSt.check w false hl, f1, zero3, MapKept.run_setObj_map _ hb, Result.andThen, setBlock]
    · refine ⟨_, _, heap_setBlock_same hb _, stamped_push h1 f2, fun e he => ?_, fun y hy => ?_⟩
      · simp only [Array.toList_push, List.mem_append, List.mem_singleton] at he
        rcases he with he | rfl
        · exact h2 e he
        · exact ⟨x, hx, rfl, by rw [h0]; rfl⟩
      · obtain ⟨e, he, ek⟩ := h3 y hy
        exact ⟨e, by simp only [Array.toList_push, List.mem_append]; exact .inl he, ek⟩
    · exact ⟨_, _, heap_setBlock_same hb _, ⟨stV x, .int .i64 0, clock⟩, by simp, rfl, rfl⟩
  · have hj : es[j]? = some e0 := by simpa using f2
    have hsame : es.modify j (fun e => { e with key := stV x }) = es := by
      apply Array.ext'
      rw [Array.toList_modify, ChangeMaps.modify_eq_set _ _ _ _ f2]
      have : ({ e0 with key := stV x } : MapEntry) = e0 := by rw [← f3]
      rw [this]
      exact set_self _ _ _ f2
    refine ⟨e0.val, e0.born, setBlock w b (.map es clock), ?_, ?_, ?_, grown_block _ _ _, by simp [setBlock]⟩
    · simp [Instr.mapEntry, run_underlying Try.underlying60, MapKept.run_getObj_map hb, lawSt.check w false hl, f1, hj, f3, lawSt.stays w hl, hsame, MapKept.run_setObj_map _ hb, Result.andThen, setBlock]
    · exact ⟨_, _, heap_setBlock_same hb _, h1, h2, h3⟩
    · exact ⟨_, _, heap_setBlock_same hb _, e0, List.mem_of_getElem? f2, rfl, f3⟩
theorem MapW.stored {w : World} {b : Nat} {T : List En} (h : MapW w b T) {x : En} {st : Nat} (he : EntAt w b st x) :
    ∃ w1 : World, (Instr.entryStore 60 (.map (some b)) (goInt st) (.int .i64 ((cntT T x : Int) + 1))).run Try.prog w = .ok () w1 ∧ MapW w1 b (T ++ [x]) ∧ w.grownBy w1 (some b) ∧ w1.heap.size = w.heap.size := by
  obtain ⟨es, clock, hb, h1, h2, h3⟩ := h
  obtain ⟨es', clock', hb', e0, hm0, hst, hk0⟩ := he
  rw [hb] at hb'
  simp only [Option.some.injEq, Obj.map.injEq] at hb'
  obtain ⟨rfl, rfl⟩ := hb'
  obtain ⟨s1, s2, s3⟩ := (stamped_iff es clock).1 h1
  obtain ⟨j, hj⟩ := List.getElem?_of_mem hm0
  have hidx : es.findIdx? (fun e => ((e.born : Nat) : Int) == ((e0.born : Nat) : Int)) = some j := by
    rw [findIdx_arr]
    exact findIdx_born s2 hj
  subst hst
  refine ⟨setBlock w b (.map (es.modify j (fun e => { e with val := .int .i64 ((cntT T x : Int) + 1) })) clock), ?_, ?_, grown_block _ _ _, by simp [setBlock]⟩
  · simp [Instr.entryStore, MapKept.run_getObj_map hb, asInt, asIntOf, goInt, hidx, MapKept.run_setObj_map _ hb, Result.andThen, setBlock]
  · have hlist : (es.modify j (fun e => { e with val := .int .i64 ((cntT T x : Int) + 1) })).toList = es.toList.set j { e0 with val := .int .i64 ((cntT T x : Int) + 1) } := by
      rw [Array.toList_modify, ChangeMaps.modify_eq_set _ _ _ _ hj]
    have hother : ∀ e ∈ es.toList, e.key = stV x → e = e0 := by
      intro e he hk
      obtain ⟨i, hi⟩ := List.getElem?_of_mem he
      rcases Nat.lt_trichotomy i j with q | q | q
      · exact absurd (hk.trans hk0.symm) (List.pairwise_iff_getElem.1 s3 i j (List.getElem?_eq_some_iff.1 hi).1 (List.getElem?_eq_some_iff.1 hj).1 q |> fun m => by
          rw [(List.getElem?_eq_some_iff.1 hi).2, (List.getElem?_eq_some_iff.1 hj).2] at m
          exact m)
      · subst q
        rw [hi] at hj
        exact Option.some.inj hj
      · exact absurd (hk.trans hk0.symm).symm (List.pairwise_iff_getElem.1 s3 j i (List.getElem?_eq_some_iff.1 hj).1 (List.getElem?_eq_some_iff.1 hi).1 q |> fun m => by
          rw [(List.getElem?_eq_some_iff.1 hi).2, (List.getElem?_eq_some_iff.1 hj).2] at m
          exact m)
    refine ⟨_, _, heap_setBlock_same hb _, stamped_modify h1 _ _ (fun _ _ => rfl) (fun _ _ _ => rfl), fun e he => ?_, fun y hy => ?_⟩
    · rw [hlist] at he
      rcases List.getElem?_of_mem he with ⟨i, hi⟩
      rw [List.getElem?_set] at hi
      by_cases q : j = i
      · subst q
        have hjl := (List.getElem?_eq_some_iff.1 hj).1
        simp only [if_true, hjl, if_true] at hi
        obtain ⟨y, hy, ey, ev⟩ := h2 e0 hm0
        have ht : twin y x = true := stV_iff.1 (by rw [← ey, hk0])
        cases hi
        refine ⟨y, hy, ey, ?_⟩
        rw [cntT_snoc, ht, cntT_twin ht]
        simp
      · rw [if_neg q] at hi
        have hm := List.mem_of_getElem? hi
        obtain ⟨y, hy, ey, ev⟩ := h2 e hm
        refine ⟨y, hy, ey, ?_⟩
        have ht : twin y x = false := by
          cases t : twin y x with
          | false => rfl
          | true =>
            have ee := hother e hm (by rw [ey]; exact stV_iff.2 t)
            subst ee
            have l1 := (List.getElem?_eq_some_iff.1 hi).1
            have l2 := (List.getElem?_eq_some_iff.1 hj).1
            have n1 := List.getElem?_eq_some_iff.1 hi
            have n2 := List.getElem?_eq_some_iff.1 hj
            exfalso
            rcases Nat.lt_or_gt_of_ne q with q | q
            · have m := List.pairwise_iff_getElem.1 s3 j i l2 l1 q
              rw [n1.2, n2.2] at m
              exact m rfl
            · have m := List.pairwise_iff_getElem.1 s3 i j l1 l2 q
              rw [n1.2, n2.2] at m
              exact m rfl
        rw [cntT_snoc, ht]
        simpa using ev
    · rw [cntT_snoc] at hy
      rw [hlist]
      by_cases t : twin y x = true
      · refine ⟨{ e0 with val := .int .i64 ((cntT T x : Int) + 1) }, ?_, ?_⟩
        · exact List.mem_iff_getElem?.2 ⟨j, by rw [List.getElem?_set, if_pos rfl, if_pos (List.getElem?_eq_some_iff.1 hj).1]⟩
        · exact hk0.trans (stV_iff.2 t).symm
      · rw [if_neg t] at hy
        obtain ⟨e, he, ek⟩ := h3 y hy
        have hne : e ≠ e0 := fun q => t (stV_iff.1 (by rw [← ek, q, hk0]))
        obtain ⟨i, hi⟩ := List.getElem?_of_mem he
        have hij : j ≠ i := fun q => hne (by subst q; rw [hi] at hj; exact Option.some.inj hj)
        exact ⟨e, List.mem_iff_getElem?.2 ⟨i, by rw [List.getElem?_set, if_neg hij]; exact hi⟩, ek⟩
end Go.Proofs.Ytfnddbglopoghaa
