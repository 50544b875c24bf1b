
import Derived.Test.YtnchjlimkgbfpaaGreatDoorE28
import Derived.Deep.RegionHeld3
namespace Go.Proofs.YtnchjlimkgbfpaaGreatDoor
open Go.RowKit
set_option linter.unusedVariables false
set_option maxRecDepth 20000
set_option linter.unusedSimpArgs false
structure EdI (W wr : World) (BB R NE NZ : Nat) (s : List Int × Int) (ad : Option Addr) (nd cd : Nat) (ids : List Int) (am : Option Addr) (nm cm : Nat) (ms : List Me) (sq nx : Int) : Prop where
  rd : RDI BB wr R s
  be : wr.heap[NE]? = some (.cells #[.slice ad nd cd, .slice am nm cm, .int .i64 sq, .int .i64 nx] 42)
  bz : wr.heap[NZ]? = some (.cells #[.slice none 0 0, .slice none 0 0, .int .i64 0, .int .i64 0] 42)
  od : OwnR wr W.heap.size 3 1 (.slice ad nd cd) (ids.map irow)
  om : OwnR wr W.heap.size 148 5 (.slice am nm cm) (ms.map meRow)
  gr : W.grownBy wr (some R)
  r1 : R < W.heap.size
  r2 : W.heap.size ≤ NE
  r3 : W.heap.size ≤ NZ
  r4 : NE ≠ NZ
  r5 : BB ≤ W.heap.size
theorem EdI.up {W wr w' : World} {BB R NE NZ : Nat} {s : List Int × Int} {ad am : Option Addr} {nd cd nm cm : Nat} {ids : List Int} {ms : List Me} {sq nx : Int} (h : EdI W wr BB R NE NZ s ad nd cd ids am nm cm ms sq nx) (hb : Below wr.heap.size wr w') : EdI W w' BB R NE NZ s ad nd cd ids am nm cm ms sq nx :=
  ⟨rd_kept h.rd hb, blk_up h.be hb, blk_up h.bz hb, h.od.up hb, h.om.up hb, grown_trans h.gr (grown_up hb _), h.r1, h.r2, h.r3, h.r4, h.r5⟩
theorem EdI.read {W wr w' : World} {BB R NE NZ : Nat} {s s' : List Int × Int} {ad am : Option Addr} {nd cd nm cm : Nat} {ids : List Int} {ms : List Me} {sq nx : Int} (h : EdI W wr BB R NE NZ s ad nd cd ids am nm cm ms sq nx) (hr : RDI BB w' R s') (hg : wr.grownBy w' (some R)) : EdI W w' BB R NE NZ s' ad nd cd ids am nm cm ms sq nx := by
  have e1 := h.r1
  have e2 := h.r2
  have e3 := h.r3
  obtain ⟨_, a, n, c, hb, _, _⟩ := h.rd
  exact ⟨hr, blk_grown h.be hg (by intro q; injection q with q; omega), blk_grown h.bz hg (by intro q; injection q with q; omega), h.od.far hg (own_blk_ne h.od.2 hb (by decide)), h.om.far hg (own_blk_ne h.om.2 hb (by decide)), grown_trans h.gr hg, h.r1, h.r2, h.r3, h.r4, h.r5⟩
theorem EdI.put {W wr : World} {BB R NE NZ : Nat} {s : List Int × Int} {ad am : Option Addr} {nd cd nm cm : Nat} {ids : List Int} {ms : List Me} {sq nx : Int} (h : EdI W wr BB R NE NZ s ad nd cd ids am nm cm ms sq nx) (i : Nat) (u : Value) {ad' am' : Option Addr} {nd' cd' nm' cm' : Nat} {ids' : List Int} {ms' : List Me} {sq' nx' : Int}
    (hc : (#[.slice ad nd cd, .slice am nm cm, .int .i64 sq, .int .i64 nx] : Array Value).setIfInBounds i u = #[.slice ad' nd' cd', .slice am' nm' cm', .int .i64 sq', .int .i64 nx']) (h1 : OwnR wr W.heap.size 3 1 (.slice ad' nd' cd') (ids'.map irow)) (h2 : OwnR wr W.heap.size 148 5 (.slice am' nm' cm') (ms'.map meRow)) :
    EdI W (wr.setCell ⟨NE, i, none⟩ u) BB R NE NZ s ad' nd' cd' ids' am' nm' cm' ms' sq' nx' := by
  have e1 := h.r1
  have e2 := h.r2
  have e5 := h.r5
  have g := grown_set wr ⟨NE, i, none⟩ u
  refine ⟨rd_far h.rd g (by simp only; omega) (by simp only; omega), ?_, blk_grown h.bz g (by intro q; injection q with q; exact h.r4 q.symm), h1.far g (own_blk_ne h1.2 h.be (by decide)), h2.far g (own_blk_ne h2.2 h.be (by decide)), grown_two h.gr g e2, h.r1, h.r2, h.r3, h.r4, h.r5⟩
  have := blk_set h.be i u
  rw [hc] at this
  exact this
theorem EdI.app {W wr w' : World} {BB R NE NZ : Nat} {s : List Int × Int} {ad am : Option Addr} {nd cd nm cm : Nat} {ids : List Int} {ms : List Me} {sq nx : Int} (h : EdI W wr BB R NE NZ s ad nd cd ids am nm cm ms sq nx) {r : Option Nat} (hg : wr.grownBy w' r) (hr : ∀ k, r = some k → W.heap.size ≤ k) (h0 : r ≠ some NE) (h1 : r ≠ some NZ) :
    RDI BB w' R s ∧ w'.heap[NE]? = some (.cells #[.slice ad nd cd, .slice am nm cm, .int .i64 sq, .int .i64 nx] 42) ∧ w'.heap[NZ]? = some (.cells #[.slice none 0 0, .slice none 0 0, .int .i64 0, .int .i64 0] 42) ∧ W.grownBy w' (some R) := by
  have e1 := h.r1
  have e5 := h.r5
  refine ⟨?_, blk_grown h.be hg (fun q => h0 q.symm), blk_grown h.bz hg (fun q => h1 q.symm), ?_⟩
  · obtain ⟨q0, a, n, c, q1, q2, q3⟩ := h.rd
    refine ⟨q0, a, n, c, blk_grown q1 hg (fun q => by have := hr R q.symm; omega), q2.far hg (fun b hb hn q => by have := hr b q.symm; have := q3 b hb hn; omega), q3⟩
  · exact ⟨hg.os.trans h.gr.os, hg.tape.trans h.gr.tape, hg.output.trans h.gr.output, Nat.le_trans h.gr.size hg.size, fun i hi hne => (hg.block i (Nat.lt_of_lt_of_le hi h.gr.size) (by intro q; have := hr i q.symm; omega)).trans (h.gr.block i hi hne)⟩
theorem EdI.app3 {W wr w' : World} {BB R NE NZ : Nat} {s : List Int × Int} {ad am a6 : Option Addr} {nd cd nm cm n6 c6 : Nat} {ids : List Int} {ms : List Me} {sq nx v : Int} (h : EdI W wr BB R NE NZ s ad nd cd ids am nm cm ms sq nx) (hg : wr.grownBy w' (Value.slice ad nd cd).ownBlock) (ho : OwnR w' W.heap.size 3 1 (.slice a6 n6 c6) (ids.map irow ++ [[.int .i64 v]])) :
    EdI W (w'.setCell ⟨NE, 0, none⟩ (.slice a6 n6 c6)) BB R NE NZ s a6 n6 c6 (ids ++ [v]) am nm cm ms sq nx := by
  have n1 : (Value.slice ad nd cd).ownBlock ≠ some NE := fun q => by
    rcases own_blk_ne h.od.2 h.be (by decide) with k | k
    · rw [k] at q; cases q
    · exact k q
  have n2 : (Value.slice ad nd cd).ownBlock ≠ some NZ := fun q => by
    rcases own_blk_ne h.od.2 h.bz (by decide) with k | k
    · rw [k] at q; cases q
    · exact k q
  obtain ⟨k1, k2, k3, k4⟩ := h.app hg (fun k hk => (h.od.2.lt k hk).1) n1 n2
  have om' : OwnR w' W.heap.size 148 5 (.slice am nm cm) (ms.map meRow) := h.om.far hg (own_own_ne h.om.2 h.od.2 (by decide))
  have hz : EdI W w' BB R NE NZ s ad nd cd [] am nm cm ms sq nx → True := fun _ => trivial
  have ho' : OwnR w' W.heap.size 3 1 (.slice a6 n6 c6) ((ids ++ [v]).map irow) := by rw [List.map_append]; exact ho
  have e1 := h.r1
  have e2 := h.r2
  have e5 := h.r5
  have g := grown_set w' ⟨NE, 0, none⟩ (Value.slice a6 n6 c6)
  refine ⟨rd_far k1 g (by simp only; omega) (by simp only; omega), blk_set k2 0 _, blk_grown k3 g (by intro q; injection q with q; exact h.r4 q.symm), ho'.far g (own_blk_ne ho'.2 k2 (by decide)), om'.far g (own_blk_ne om'.2 k2 (by decide)), grown_two k4 g e2, h.r1, h.r2, h.r3, h.r4, h.r5⟩
theorem EdI.app65 {W wr w' : World} {BB R NE NZ : Nat} {s : List Int × Int} {ad am a6 : Option Addr} {nd cd nm cm n6 c6 : Nat} {ids : List Int} {ms : List Me} {sq nx : Int} {m : Me} (h : EdI W wr BB R NE NZ s ad nd cd ids am nm cm ms sq nx) (hg : wr.grownBy w' (Value.slice am nm cm).ownBlock) (ho : OwnR w' W.heap.size 148 5 (.slice a6 n6 c6) (ms.map meRow ++ [[.int .i64 m.id, .int .i64 m.lvl, .int .i64 m.cnt, .string m.low, .string m.high]])) :
    EdI W (w'.setCell ⟨NE, 1, none⟩ (.slice a6 n6 c6)) BB R NE NZ s ad nd cd ids a6 n6 c6 (ms ++ [m]) sq nx := by
  have n1 : (Value.slice am nm cm).ownBlock ≠ some NE := fun q => by
    rcases own_blk_ne h.om.2 h.be (by decide) with k | k
    · rw [k] at q; cases q
    · exact k q
  have n2 : (Value.slice am nm cm).ownBlock ≠ some NZ := fun q => by
    rcases own_blk_ne h.om.2 h.bz (by decide) with k | k
    · rw [k] at q; cases q
    · exact k q
  obtain ⟨k1, k2, k3, k4⟩ := h.app hg (fun k hk => (h.om.2.lt k hk).1) n1 n2
  have od' : OwnR w' W.heap.size 3 1 (.slice ad nd cd) (ids.map irow) := h.od.far hg (own_own_ne h.od.2 h.om.2 (by decide))
  have ho' : OwnR w' W.heap.size 148 5 (.slice a6 n6 c6) ((ms ++ [m]).map meRow) := by rw [List.map_append]; exact ho
  have e1 := h.r1
  have e2 := h.r2
  have e5 := h.r5
  have g := grown_set w' ⟨NE, 1, none⟩ (Value.slice a6 n6 c6)
  refine ⟨rd_far k1 g (by simp only; omega) (by simp only; omega), blk_set k2 1 _, blk_grown k3 g (by intro q; injection q with q; exact h.r4 q.symm), od'.far g (own_blk_ne od'.2 k2 (by decide)), ho'.far g (own_blk_ne ho'.2 k2 (by decide)), grown_two k4 g e2, h.r1, h.r2, h.r3, h.r4, h.r5⟩
theorem row_made (w : World) (e : TypeId) (cs : List Value) (sz : Nat) (hc : cs.length = sz) : Rws sz (w.alloc (.cells cs.toArray e)) (.slice (some ⟨w.heap.size, 0, none⟩) 1 1) [cs] := by
  have hR := Rws.made (sz := sz) w e [cs] (by simp [hc]) (by simp [maxLen])
  simp only [List.flatten_cons, List.flatten_nil, List.append_nil, List.length_cons, List.length_nil, Nat.zero_add] at hR
  exact hR
end Go.Proofs.YtnchjlimkgbfpaaGreatDoor
