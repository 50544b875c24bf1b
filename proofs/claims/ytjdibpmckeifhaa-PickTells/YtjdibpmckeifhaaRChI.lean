/- A plan that is being made. -/
import Derived.Test.YtjdibpmckeifhaaJChM
namespace Go.Proofs.Ytjdibpmckeifhaa
open Go.RowKit
set_option linter.unusedVariables false
set_option linter.unusedSimpArgs false

theorem grown_low {a b c : World} {r : Option Nat} {B : Nat} (h : a.grownBy b r) (k : Below B b c) (hB : a.heap.size ≤ B) : a.grownBy c r :=
  ⟨k.os.trans h.os, k.tape.trans h.tape, k.output.trans h.output, Nat.le_trans h.size k.size, fun i hi hne => (k.block i (Nat.lt_of_lt_of_le hi hB)).trans (h.block i hi hne)⟩
theorem grown_beside {a b c : World} {r q : Option Nat} (h : a.grownBy b r) (k : b.grownBy c q) (hq : ∀ g, q = some g → a.heap.size ≤ g) : a.grownBy c r :=
  ⟨k.os.trans h.os, k.tape.trans h.tape, k.output.trans h.output, Nat.le_trans h.size k.size, fun i hi hne => (k.block i (Nat.lt_of_lt_of_le hi h.size) (fun e => by have := hq i e.symm; omega)).trans (h.block i hi hne)⟩
/-- A plan that is being made, in block NP: its Inputs lie in memory that is newer than w2; of w2 all else stays. -/
structure ChI (w2 wr : World) (NP : Nat) (lev : Int) (a : Option Addr) (n c : Nat) (I : List (List Value)) (bt : Bool) : Prop where
  bp : wr.heap[NP]? = some (.cells #[.int .i64 lev, .slice a n c, .bool bt] 39)
  ow : OwnR wr w2.heap.size 3 1 (.slice a n c) I
  gr : w2.grownBy wr (some NP)
  lt : NP < w2.heap.size
theorem ChI.up {w2 wr w' : World} {NP : Nat} {lev : Int} {a : Option Addr} {n c : Nat} {I : List (List Value)} {bt : Bool} (h : ChI w2 wr NP lev a n c I bt) (hb : Below wr.heap.size wr w') : ChI w2 w' NP lev a n c I bt :=
  ⟨blk_up h.bp hb, h.ow.up hb, grown_low h.gr hb h.gr.size, h.lt⟩
theorem ChI.kept {w2 wr w' : World} {NP : Nat} {lev : Int} {a : Option Addr} {n c : Nat} {I : List (List Value)} {bt : Bool} (h : ChI w2 wr NP lev a n c I bt) (hg : wr.grownBy w' (Value.slice a n c).ownBlock) : w'.heap[NP]? = some (.cells #[.int .i64 lev, .slice a n c, .bool bt] 39) :=
  blk_grown h.bp hg (fun q => by
    rcases own_blk_ne h.ow.2 h.bp (by decide) with k | k
    · rw [k] at q; cases q
    · exact k q.symm)
theorem ChI.app {w2 wr w' : World} {NP : Nat} {lev : Int} {a a' : Option Addr} {n c n' c' : Nat} {I I' : List (List Value)} {bt : Bool} (h : ChI w2 wr NP lev a n c I bt) (hg : wr.grownBy w' (Value.slice a n c).ownBlock) (ho : OwnR w' w2.heap.size 3 1 (.slice a' n' c') I') : ChI w2 (w'.setCell ⟨NP, 1, none⟩ (.slice a' n' c')) NP lev a' n' c' I' bt := by
  have k := h.kept hg
  refine ⟨blk_set k 1 (.slice a' n' c'), OwnR.far ho (grown_set w' ⟨NP, 1, none⟩ _) (own_blk_ne ho.2 k (by decide)), ?_, h.lt⟩
  have g1 := grown_beside h.gr hg (fun g e => (h.ow.2.lt g e).1)
  exact grown_trans g1 (grown_set w' ⟨NP, 1, none⟩ _)
theorem ChI.bot {w2 wr : World} {NP : Nat} {lev : Int} {a : Option Addr} {n c : Nat} {I : List (List Value)} {bt : Bool} (h : ChI w2 wr NP lev a n c I bt) (b2 : Bool) : ChI w2 (wr.setCell ⟨NP, 2, none⟩ (.bool b2)) NP lev a n c I b2 :=
  ⟨blk_set h.bp 2 (.bool b2), OwnR.far h.ow (grown_set wr ⟨NP, 2, none⟩ _) (own_blk_ne h.ow.2 h.bp (by decide)), grown_trans h.gr (grown_set wr ⟨NP, 2, none⟩ _), h.lt⟩
theorem ChI.rows {w2 wr : World} {NP : Nat} {lev : Int} {a : Option Addr} {n c : Nat} {I : List (List Value)} {bt : Bool} (h : ChI w2 wr NP lev a n c I bt) {v : Value} {l : List Me} (hv : MetsR w2 v l) (hb : ∀ g, v.ownBlock = some g → g ≠ NP) : MetsR wr v l :=
  Rws.far hv h.gr (fun b q _ e => by injection e with e; exact hb b q e)
theorem ChI.blk {w2 wr : World} {NP : Nat} {lev : Int} {a : Option Addr} {n c : Nat} {I : List (List Value)} {bt : Bool} (h : ChI w2 wr NP lev a n c I bt) {N : Nat} {o : Obj} (hv : w2.heap[N]? = some o) (hb : N ≠ NP) : wr.heap[N]? = some o :=
  blk_grown hv h.gr (fun e => by injection e with e; exact hb e)
theorem row_made (w : World) (t : TypeId) (cs : List Value) (sz : Nat) (h : cs.length = sz) : Rws sz (w.alloc (.cells cs.toArray t)) (.slice (some ⟨w.heap.size, 0, none⟩) 1 1) [cs] := by
  have := Rws.made (sz := sz) w t [cs] (by simpa using h) (by simp [maxLen])
  simpa using this

def lowS (b : Bool) (L s : ByteArray) : ByteArray := if b = true then minK L s else L
def highS (b : Bool) (L s : ByteArray) : ByteArray := if b = true then maxK L s else L
theorem lowS_min (b : Bool) (L s : ByteArray) : minK (lowS b L s) s = lowS true L s := by
  cases b
  · rfl
  · exact minK_idem L s
theorem highS_max (b : Bool) (L s : ByteArray) : maxK (highS b L s) s = highS true L s := by
  cases b
  · rfl
  · exact maxK_idem L s
theorem lowM_filter {l : List Me} {k : Nat} {x : Me} (h : l[k]? = some x) (P : Me → Bool) (s : ByteArray) : lowM s ((l.take (k + 1)).filter P) = lowS (P x) (lowM s ((l.take k).filter P)) x.low := by
  rw [List.take_add_one, h, Option.toList_some, List.filter_append]
  cases q : P x
  · rw [List.filter_cons_of_neg (by simp [q]), List.filter_nil, List.append_nil]; rfl
  · rw [List.filter_cons_of_pos q, List.filter_nil, lowM_snoc]; rfl
theorem highM_filter {l : List Me} {k : Nat} {x : Me} (h : l[k]? = some x) (P : Me → Bool) (s : ByteArray) : highM s ((l.take (k + 1)).filter P) = highS (P x) (highM s ((l.take k).filter P)) x.high := by
  rw [List.take_add_one, h, Option.toList_some, List.filter_append]
  cases q : P x
  · rw [List.filter_cons_of_neg (by simp [q]), List.filter_nil, List.append_nil]; rfl
  · rw [List.filter_cons_of_pos q, List.filter_nil, highM_snoc]; rfl
def botR (ts : List Me) (lev : Int) (f t : ByteArray) (j : Nat) : Bool := (List.range j).all (fun i : Nat => (touchM ts (lev + 2 + (i : Int)) f t).isEmpty)
theorem botR_step (ts : List Me) (lev : Int) (f t : ByteArray) (j : Nat) : botR ts lev f t (j + 1) = (botR ts lev f t j && (touchM ts (lev + 2 + (j : Int)) f t).isEmpty) := by
  unfold botR
  rw [List.range_succ, List.all_append]
  simp only [List.all_cons, List.all_nil, Bool.and_true]
theorem noneBelow {ts : List Me} {s n : Int} (h : errV ts s n = 0) (lev : Int) (hl : 3 < lev) (f t : ByteArray) : touchM ts lev f t = [] := by
  rw [List.eq_nil_iff_forall_not_mem]
  intro m hm
  have h1 := mem_touch.1 hm
  have h2 := chk_nums h h1.1
  omega
theorem botR_plan {ts : List Me} {s n : Int} (h : errV ts s n = 0) (lev : Int) (hl : lev = 0 ∨ lev = 1 ∨ lev = 2) (f t : ByteArray) (j : Nat) (hj : lev + 2 + (j : Int) = 4) : botR ts lev f t j = ((touchM ts (lev + 2) f t).isEmpty && (touchM ts (lev + 3) f t).isEmpty) := by
  rcases hl with rfl | rfl | rfl
  · obtain rfl : j = 2 := by omega
    rw [botR_step, botR_step]
    have e0 : botR ts 0 f t 0 = true := rfl
    rw [e0]
    simp
  · obtain rfl : j = 1 := by omega
    rw [botR_step]
    have e0 : botR ts 1 f t 0 = true := rfl
    rw [e0]
    have := noneBelow h 4 (by decide) f t
    simp [this]
  · obtain rfl : j = 0 := by omega
    have e0 : botR ts 2 f t 0 = true := rfl
    rw [e0]
    have h4 := noneBelow h 4 (by decide) f t
    have h5 := noneBelow h 5 (by decide) f t
    simp [h4, h5]
end Go.Proofs.Ytjdibpmckeifhaa
