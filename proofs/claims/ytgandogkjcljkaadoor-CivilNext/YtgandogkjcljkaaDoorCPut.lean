/- The program's closure that puts a number's digits into a text of its own. -/
import Derived.Test.YtgandogkjcljkaaDoorCDig
namespace Go.Proofs.YtgandogkjcljkaaDoor
open Go.RowKit
set_option linter.unusedVariables false
set_option linter.unusedSimpArgs false

/-- A block of octets. -/
def octC (l : List Int) : Array Value := (l.map (Value.int .u8)).toArray
theorem octC_set (l : List Int) (k : Nat) (x : Int) : (octC l).setIfInBounds k (.int .u8 x) = octC (l.set k x) := by
  simp [octC, List.map_set]
theorem octC_get {l : List Int} {k : Nat} {x : Int} (h : l[k]? = some x) : (octC l)[k]? = some (.int .u8 x) := by
  simp [octC, h]
theorem set_far {w : World} {X T : Nat} {o : Obj} (h : w.heap[X]? = some o) (hne : X ≠ T) (i : Nat) (u : Value) : (w.setCell ⟨T, i, none⟩ u).heap[X]? = some o := by
  have := Below.heap_setCell w ⟨T, i, none⟩ u X (fun e => hne e)
  exact this.trans h
theorem blk_frozen19 {w : World} {B : Nat} {cs : Array Value} {t : TypeId} (h : w.heap[B]? = some (.cells cs t (19, 20))) (i : Nat) (hi : i < 19) : w.frozen? ⟨B, i, none⟩ = false := by
  simp only [World.frozen?, h]
  simp
  omega
/-- What a round of the closure finds and leaves. -/
structure PutAt (w : World) (X T : Nat) (l : List Int) : Prop where
  box : w.heap[X]? = some (.cells #[.slice (some ⟨T, 0, none⟩) 19 19] 59)
  blk : w.heap[T]? = some (.cells (octC l) 5 (19, 20))
  ne : X ≠ T
theorem PutAt.put {w : World} {X T : Nat} {l : List Int} (h : PutAt w X T l) (k : Nat) (x : Int) : PutAt (w.setCell ⟨T, k, none⟩ (.int .u8 x)) X T (l.set k x) :=
  ⟨set_far h.box h.ne k _, by have := blk_set h.blk k (.int .u8 x); rw [octC_set] at this; exact this, h.ne⟩
theorem set_get {l : List Int} {k j : Nat} {x y : Int} (h : l[j]? = some y) (hne : k ≠ j) : (l.set k x)[j]? = some y := by
  rw [List.getElem?_set, if_neg hne]
  exact h
theorem set_same {l : List Int} {k : Nat} {x : Int} (h : l[k]? = some x) : l.set k x = l := by
  apply List.ext_getElem?
  intro i
  rw [List.getElem?_set]
  split
  · rename_i e
    subst e
    rw [if_pos (List.getElem?_eq_some_iff.1 h).1, h]
  · rfl
theorem PutAt.text {w : World} {X T : Nat} {l : List Int} (h : PutAt w X T l) : w.cell? ⟨X, 0, none⟩ = some (.slice (some ⟨T, 0, none⟩) 19 19) := blk_cell h.box 0 _ rfl
theorem PutAt.at {w : World} {X T : Nat} {l : List Int} (h : PutAt w X T l) {k : Nat} {x : Int} (hx : l[k]? = some x) : w.cell? ⟨T, k, none⟩ = some (.int .u8 x) := blk_cell h.blk k _ (octC_get hx)
set_option maxHeartbeats 1000000 in
theorem put2_any (l : List Int) (k : Nat) (n : Int) (hk : k + 1 < 19) (h1 : l[k]? = some 48) (h2 : l[k + 1]? = some 48) (n0 : 0 ≤ n) (n1 : n < 100) (X T : Nat) (w : World) (hp : PutAt w X T l) (K : Int) (hK : K = (k : Int) + 1) :
    Calls Tryd.prog 30 #[.int .i64 K, .int .i64 n, .pointer (some ⟨X, 0, none⟩)] w fun e w' => e = .returned (.tuple #[]) ∧ Hid (PutAt w' X T ((l.set (k + 1) (48 + n % 10)).set k (48 + n / 10))) ∧ Hid (w.grownBy w' (some T)) := by
  subst hK
  have hc := hp.text
  have e2 := hp.at h2
  have f2 := blk_frozen19 hp.blk (k + 1) (by omega)
  by_cases c0 : n = 0
  · subst c0
    have E : Hid ((l.set (k + 1) (48 + 0 % 10)).set k (48 + 0 / 10) = l) := by
      unfold Hid
      rw [set_same (x := 48 + 0 % 10) (by simpa using h2), set_same (x := 48 + 0 / 10) (by simpa using h1)]
    have P0 := hid hp
    clear hp h1 h2
    go_enter Tryd.func30, Tryd.ntmps30
    go_wp2_with fail
    refine wp_loop_rounds 1 ?_
    rw [rounds_succ]
    go_wp2
    go_returns
    refine ⟨rfl, ?_, grown_up (Below.refl _ _) _⟩
    rw [E.out]
    exact P0.out
  by_cases c1 : n < 10
  · have e10 : n / 10 = 0 := by omega
    have m10 : n % 10 = n := by omega
    have P1 := hid (hp.put (k + 1) (48 + n))
    have hc1 := P1.out.text
    have E : Hid ((l.set (k + 1) (48 + n % 10)).set k (48 + n / 10) = l.set (k + 1) (48 + n)) := by
      unfold Hid
      rw [m10, e10]
      exact set_same (set_get h1 (by omega))
    have G1 : Hid (w.grownBy (w.setCell ⟨T, k + 1, none⟩ (.int .u8 (48 + n))) (some T)) := grown_set w ⟨T, k + 1, none⟩ _
    clear hp h1 h2
    go_enter Tryd.func30, Tryd.ntmps30
    go_wp2_with fail
    refine wp_loop_rounds 2 ?_
    rw [rounds_succ]
    go_wp2
    rw [rounds_succ]
    go_wp2
    go_returns
    refine ⟨rfl, ?_, G1⟩
    rw [E.out]
    exact P1
  · have e10 : ¬ n / 10 = 0 := by omega
    have g10 : 0 < n / 10 := by omega
    have e100 : n / 10 / 10 = 0 := by omega
    have m10 : n / 10 % 10 = n / 10 := by omega
    have P1 := hid (hp.put (k + 1) (48 + n % 10))
    have P2 := hid (P1.out.put k (48 + n / 10))
    have hc1 := P1.out.text
    have ea1 := P1.out.at (set_get h1 (by omega : k + 1 ≠ k))
    have fa1 := blk_frozen19 P1.out.blk k (by omega)
    have G1 : Hid (w.grownBy (w.setCell ⟨T, k + 1, none⟩ (.int .u8 (48 + n % 10))) (some T)) := grown_set w ⟨T, k + 1, none⟩ _
    have G2 : Hid (w.grownBy ((w.setCell ⟨T, k + 1, none⟩ (.int .u8 (48 + n % 10))).setCell ⟨T, k, none⟩ (.int .u8 (48 + n / 10))) (some T)) := grown_trans G1.out (grown_set _ ⟨T, k, none⟩ _)
    clear hp h1 h2
    go_enter Tryd.func30, Tryd.ntmps30
    go_wp2_with fail
    refine wp_loop_rounds 3 ?_
    rw [rounds_succ]
    go_wp2
    rw [rounds_succ]
    go_wp2
    rw [rounds_succ]
    go_wp2
    go_returns
    exact ⟨rfl, P2, G2⟩
set_option maxHeartbeats 1000000 in
theorem put4_any (l : List Int) (n : Int) (h0 : l[0]? = some 48) (h1 : l[1]? = some 48) (h2 : l[2]? = some 48) (h3 : l[3]? = some 48) (n0 : 1000 ≤ n) (n1 : n < 10000) (X T : Nat) (w : World) (hp : PutAt w X T l) :
    Calls Tryd.prog 30 #[.int .i64 3, .int .i64 n, .pointer (some ⟨X, 0, none⟩)] w fun e w' => e = .returned (.tuple #[]) ∧ Hid (PutAt w' X T ((((l.set 3 (48 + n % 10)).set 2 (48 + n / 10 % 10)).set 1 (48 + n / 100 % 10)).set 0 (48 + n / 1000))) ∧ Hid (w.grownBy w' (some T)) := by
  have d2 : n / 100 = n / 10 / 10 := by omega
  have d3 : n / 1000 = n / 10 / 10 / 10 := by omega
  rw [d2, d3]
  have g1 : 0 < n / 10 := by omega
  have g2 : 0 < n / 10 / 10 := by omega
  have g3 : 0 < n / 10 / 10 / 10 := by omega
  have g4 : n / 10 / 10 / 10 / 10 = 0 := by omega
  have m3 : n / 10 / 10 / 10 % 10 = n / 10 / 10 / 10 := by omega
  have hc := hp.text
  have e3 := hp.at h3
  have f3 := blk_frozen19 hp.blk 3 (by omega)
  have P1 := hid (hp.put 3 (48 + n % 10))
  have P2 := hid (P1.out.put 2 (48 + n / 10 % 10))
  have P3 := hid (P2.out.put 1 (48 + n / 10 / 10 % 10))
  have P4 := hid (P3.out.put 0 (48 + n / 10 / 10 / 10))
  have hc1 := P1.out.text
  have hc2 := P2.out.text
  have hc3 := P3.out.text
  have e2 := P1.out.at (set_get h2 (by omega : 3 ≠ 2))
  have e1 := P2.out.at (set_get (set_get h1 (by omega : 3 ≠ 1)) (by omega : 2 ≠ 1))
  have e0 := P3.out.at (set_get (set_get (set_get h0 (by omega : 3 ≠ 0)) (by omega : 2 ≠ 0)) (by omega : 1 ≠ 0))
  have f2 := blk_frozen19 P1.out.blk 2 (by omega)
  have f1 := blk_frozen19 P2.out.blk 1 (by omega)
  have f0 := blk_frozen19 P3.out.blk 0 (by omega)
  have G : Hid (w.grownBy ((((w.setCell ⟨T, 3, none⟩ (.int .u8 (48 + n % 10))).setCell ⟨T, 2, none⟩ (.int .u8 (48 + n / 10 % 10))).setCell ⟨T, 1, none⟩ (.int .u8 (48 + n / 10 / 10 % 10))).setCell ⟨T, 0, none⟩ (.int .u8 (48 + n / 10 / 10 / 10))) (some T)) :=
    grown_trans (grown_trans (grown_trans (grown_set w ⟨T, 3, none⟩ _) (grown_set _ ⟨T, 2, none⟩ _)) (grown_set _ ⟨T, 1, none⟩ _)) (grown_set _ ⟨T, 0, none⟩ _)
  clear hp h0 h1 h2 h3 d2 d3
  go_enter Tryd.func30, Tryd.ntmps30
  go_wp2_with fail
  refine wp_loop_rounds 5 ?_
  rw [rounds_succ]
  go_wp2
  rw [rounds_succ]
  go_wp2
  rw [rounds_succ]
  go_wp2
  rw [rounds_succ]
  go_wp2
  rw [rounds_succ]
  go_wp2
  go_returns
  exact ⟨rfl, P4, G⟩
end Go.Proofs.YtgandogkjcljkaaDoor
