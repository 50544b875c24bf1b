/- The document's reader of layer 6: numbers. -/
import Derived.Test.YtibjjhceiohmeaaXOct
import Derived.Test.YtibjjhceiohmeaaVRefGet
namespace Go.Proofs.Ytibjjhceiohmeaa
open Go.RowKit SumPlain
set_option linter.unusedVariables false

/-- The document's reader at N: it stands at k in the octets X, its error is y. -/
structure RQ (w0 w : World) (N : Nat) (X : List Int) (a : Option Addr) (c k : Nat) (y : Int) : Prop where
  up : Below w0.heap.size w0 w
  n : w0.heap.size ≤ N
  blk : w.heap[N]? = some (.cells #[.slice a X.length c, .int .i64 (k : Int), .int .i64 y] 80)
  octs : Octs w0 (.slice a X.length c) X
  le : k ≤ X.length
  xl : X.length ≤ 140737488355328

theorem RQ.upw {w0 w w' : World} {N : Nat} {X : List Int} {a : Option Addr} {c k : Nat} {y : Int} (h : RQ w0 w N X a c k y) (hb : Below w.heap.size w w') : RQ w0 w' N X a c k y :=
  ⟨up_trans h.up hb, h.n, blk_up h.blk hb, h.octs, h.le, h.xl⟩
theorem RQ.far {w0 w w' : World} {N : Nat} {X : List Int} {a : Option Addr} {c k : Nat} {y : Int} {r : Option Nat} (h : RQ w0 w N X a c k y) (hg : w.grownBy w' r) (hr : ∀ g, r = some g → w0.heap.size ≤ g ∧ g ≠ N) : RQ w0 w' N X a c k y :=
  ⟨h.up.grown hg h.up.size (fun g e => (hr g e).1), h.n, blk_grown h.blk hg (fun e => (hr N e.symm).2 rfl), h.octs, h.le, h.xl⟩
theorem RQ.setAt {w0 w : World} {N : Nat} {X : List Int} {a : Option Addr} {c k : Nat} {y : Int} (h : RQ w0 w N X a c k y) (j : Nat) (hj : j ≤ X.length) : RQ w0 (w.setCell ⟨N, 1, none⟩ (.int .i64 (j : Int))) N X a c j y :=
  ⟨h.up.grown (grown_set _ _ _) h.up.size (fun g e => by have := h.n; simp at e; omega), h.n, blk_set h.blk 1 _, h.octs, hj, h.xl⟩
theorem RQ.setErr {w0 w : World} {N : Nat} {X : List Int} {a : Option Addr} {c k : Nat} {y : Int} (h : RQ w0 w N X a c k y) (z : Int) : RQ w0 (w.setCell ⟨N, 2, none⟩ (.int .i64 z)) N X a c k z :=
  ⟨h.up.grown (grown_set _ _ _) h.up.size (fun g e => by have := h.n; simp at e; omega), h.n, blk_set h.blk 2 _, h.octs, h.le, h.xl⟩

theorem numQ_err {most code : Int} (hc : code ≠ 0) {l : List Int} {y : Int} (h : numQ most code l = .error y) : y ≠ 0 := by
  unfold numQ at h
  split at h
  · split at h
    · injection h with h; subst h; exact hc
    · cases h
  · rename_i h0
    injection h with h
    subst h
    exact h0

theorem refNum_err (N : Nat) (X : List Int) (a : Option Addr) (c k : Nat) (y : Int) (most code : Int) (w0 w : World) (h : RQ w0 w N X a c k y) (hy : y ≠ 0) :
    Calls Try.prog 49 #[.pointer (some ⟨N, 0, none⟩), .int .u64 most, .int .i64 code] w fun e w' => e = .returned (.int .i64 0) ∧ w' = w := by
  have p2 : w.cell? ⟨N, 2, none⟩ = some (.int .i64 y) := blk_cell h.blk 2 _ rfl
  have y1 : (y == 0) = false := by simp [hy]
  have y2 : (y != 0) = true := by simp [hy]
  clear h
  go_enter Try.func49, Try.ntmps49
  go_wp2
  go_ret
  exact ⟨rfl, rfl⟩

theorem octs_drop {w : World} {b off c n : Nat} {l : List Int} (h : Octs w (.slice (some ⟨b, off, none⟩) l.length c) l) (hn : n ≤ l.length) (hc : l.length ≤ c) : Octs w (.slice (some ⟨b, off + n, none⟩) (l.length - n) (c - n)) (l.drop n) := h.back rfl n hn hc

set_option maxHeartbeats 2000000 in
theorem refNum_get (N : Nat) (X : List Int) (a : Option Addr) (c k : Nat) (most code y : Int) (w0 w : World) (h : RQ w0 w N X a c k 0) (hg : getRet (X.drop k) = .tuple #[.int .u64 0, .int .i64 0, .int .i64 y]) (hy : y ≠ 0) :
    Calls Try.prog 49 #[.pointer (some ⟨N, 0, none⟩), .int .u64 most, .int .i64 code] w fun e w' => e = .returned (.int .i64 0) ∧ Hid (RQ w0 w' N X a c k y) ∧ Hid (w.grownBy w' (some N)) := by
  have p0 : w.cell? ⟨N, 0, none⟩ = some (.slice a X.length c) := blk_cell h.blk 0 _ rfl
  have p1 : w.cell? ⟨N, 1, none⟩ = some (.int .i64 (k : Int)) := blk_cell h.blk 1 _ rfl
  have p2 : w.cell? ⟨N, 2, none⟩ = some (.int .i64 0) := blk_cell h.blk 2 _ rfl
  have z2 := blk_frozen h.blk 2
  have y1 : (y == 0) = false := by simp [hy]
  have y2 : (y != 0) = true := by simp [hy]
  have HS : Hid (∀ d, RQ w0 ((w.drewN d).setCell ⟨N, 2, none⟩ (.int .i64 y)) N X a c k y) := fun d => (h.upw (up_drewN w d)).setErr y
  have HG : Hid (∀ d, w.grownBy ((w.drewN d).setCell ⟨N, 2, none⟩ (.int .i64 y)) (some N)) := fun d => grown_trans (grown_up (up_drewN w d) _) (grown_set _ _ _)
  have hx : Octs w (.slice a X.length c) X := h.octs.up h.up
  have hk := h.le
  have hk' : (k : Int) ≤ (X.length : Int) := by omega
  have hk0 : (0 : Int) ≤ (k : Int) := by omega
  clear h
  rcases hx.form with ⟨rfl, rfl, rfl⟩ | ⟨x, rfl, rfl⟩ | ⟨b, off, rfl, hne, hc, hm⟩
  · simp at hk
    subst hk
    have HGQ : Hid (∀ m, Calls Try.prog 59 #[.slice none 0 0] (w.drewN m) fun e w' => e = .returned (.tuple #[.int .u64 0, .int .i64 0, .int .i64 y]) ∧ ∃ d, w' = (w.drewN m).drewN d) := fun m => by
      have := refGet_any (List.drop 0 ([] : List Int)) (.slice none 0 0) (w.drewN m) ((hx : Octs w (.slice none 0 0) (List.drop 0 ([] : List Int))).up (up_drewN w m))
      rw [hg] at this
      exact this
    clear hg hx
    go_enter Try.func49, Try.ntmps49
    go_wp2_with fail
    go_quiet ((go_at_call 59; exact Calls.quiet_of (HGQ.out _)))
    go_wp2
    go_ret
    exact ⟨rfl, HS.out _, HG.out _⟩
  · simp at hk
    subst hk
    by_cases hc0 : c = 0
    · subst hc0
      have HGQ : Hid (∀ m, Calls Try.prog 59 #[.slice (some x) 0 0] (w.drewN m) fun e w' => e = .returned (.tuple #[.int .u64 0, .int .i64 0, .int .i64 y]) ∧ ∃ d, w' = (w.drewN m).drewN d) := fun m => by
        have := refGet_any (List.drop 0 ([] : List Int)) (.slice (some x) 0 0) (w.drewN m) ((hx : Octs w (.slice (some x) 0 0) (List.drop 0 ([] : List Int))).up (up_drewN w m))
        rw [hg] at this
        exact this
      clear hg hx
      go_enter Try.func49, Try.ntmps49
      go_wp2_with fail
      go_quiet ((go_at_call 59; exact Calls.quiet_of (HGQ.out _)))
      go_wp2
      go_ret
      exact ⟨rfl, HS.out _, HG.out _⟩
    · skip
      have HGQ : Hid (∀ m, Calls Try.prog 59 #[.slice (some x) 0 c] (w.drewN m) fun e w' => e = .returned (.tuple #[.int .u64 0, .int .i64 0, .int .i64 y]) ∧ ∃ d, w' = (w.drewN m).drewN d) := fun m => by
        have := refGet_any (List.drop 0 ([] : List Int)) (.slice (some x) 0 c) (w.drewN m) ((hx : Octs w (.slice (some x) 0 c) (List.drop 0 ([] : List Int))).up (up_drewN w m))
        rw [hg] at this
        exact this
      clear hg hx
      go_enter Try.func49, Try.ntmps49
      go_wp2_with fail
      go_quiet ((go_at_call 59; exact Calls.quiet_of (HGQ.out _)))
      go_wp2
      go_ret
      exact ⟨rfl, HS.out _, HG.out _⟩
  · unfold maxLen at hm
    by_cases hcn : c = k
    · obtain rfl : k = X.length := by omega
      obtain rfl : c = X.length := hcn
      have HGQ : Hid (∀ m, Calls Try.prog 59 #[.slice (some ⟨b, off, none⟩) 0 0] (w.drewN m) fun e w' => e = .returned (.tuple #[.int .u64 0, .int .i64 0, .int .i64 y]) ∧ ∃ d, w' = (w.drewN m).drewN d) := fun m => by
        have := refGet_any (X.drop X.length) (.slice (some ⟨b, off, none⟩) 0 0) (w.drewN m) ((by rw [List.drop_length]; exact ⟨by simp, .inl ⟨rfl, _, _, rfl, fun e => by cases e⟩⟩ : Octs w (.slice (some ⟨b, off, none⟩) 0 0) (X.drop X.length)).up (up_drewN w m))
        rw [hg] at this
        exact this
      clear hg hx
      go_enter Try.func49, Try.ntmps49
      go_wp2_with fail
      go_quiet ((go_at_call 59; exact Calls.quiet_of (HGQ.out _)))
      go_wp2
      go_ret
      exact ⟨rfl, HS.out _, HG.out _⟩
    · skip
      have HGQ : Hid (∀ m, Calls Try.prog 59 #[.slice (some ⟨b, off + k, none⟩) (X.length - k) (c - k)] (w.drewN m) fun e w' => e = .returned (.tuple #[.int .u64 0, .int .i64 0, .int .i64 y]) ∧ ∃ d, w' = (w.drewN m).drewN d) := fun m => by
        have := refGet_any (X.drop k) (.slice (some ⟨b, off + k, none⟩) (X.length - k) (c - k)) (w.drewN m) ((octs_drop hx hk hc : Octs w (.slice (some ⟨b, off + k, none⟩) (X.length - k) (c - k)) (X.drop k)).up (up_drewN w m))
        rw [hg] at this
        exact this
      clear hg hx
      go_enter Try.func49, Try.ntmps49
      go_wp2_with fail
      go_quiet ((go_at_call 59; exact Calls.quiet_of (HGQ.out _)))
      go_wp2
      go_ret
      exact ⟨rfl, HS.out _, HG.out _⟩

set_option maxHeartbeats 2000000 in
theorem refNum_big (N : Nat) (X : List Int) (a : Option Addr) (c k : Nat) (most code n : Int) (j : Nat) (w0 w : World) (h : RQ w0 w N X a c k 0) (hg : getRet (X.drop k) = .tuple #[.int .u64 n, .int .i64 (j : Int), .int .i64 0]) (hj : 1 ≤ j ∧ j ≤ (X.drop k).length) (hn : most < n) :
    Calls Try.prog 49 #[.pointer (some ⟨N, 0, none⟩), .int .u64 most, .int .i64 code] w fun e w' => e = .returned (.int .i64 0) ∧ Hid (RQ w0 w' N X a c k code) ∧ Hid (w.grownBy w' (some N)) := by
  have p0 : w.cell? ⟨N, 0, none⟩ = some (.slice a X.length c) := blk_cell h.blk 0 _ rfl
  have p1 : w.cell? ⟨N, 1, none⟩ = some (.int .i64 (k : Int)) := blk_cell h.blk 1 _ rfl
  have p2 : w.cell? ⟨N, 2, none⟩ = some (.int .i64 0) := blk_cell h.blk 2 _ rfl
  have z2 := blk_frozen h.blk 2
  have HS : Hid (∀ d, RQ w0 ((w.drewN d).setCell ⟨N, 2, none⟩ (.int .i64 code)) N X a c k code) := fun d => (h.upw (up_drewN w d)).setErr code
  have HG : Hid (∀ d, w.grownBy ((w.drewN d).setCell ⟨N, 2, none⟩ (.int .i64 code)) (some N)) := fun d => grown_trans (grown_up (up_drewN w d) _) (grown_set _ _ _)
  have hx : Octs w (.slice a X.length c) X := h.octs.up h.up
  have hk := h.le
  have hk' : (k : Int) ≤ (X.length : Int) := by omega
  have hk0 : (0 : Int) ≤ (k : Int) := by omega
  rw [List.length_drop] at hj
  clear h
  rcases hx.form with ⟨rfl, rfl, rfl⟩ | ⟨x, rfl, rfl⟩ | ⟨b, off, rfl, hne, hc, hm⟩
  · simp at hj; omega
  · simp at hj; omega
  · unfold maxLen at hm
    have hcn : ¬ c = k := by omega
    have HGQ : Hid (∀ m, Calls Try.prog 59 #[.slice (some ⟨b, off + k, none⟩) (X.length - k) (c - k)] (w.drewN m) fun e w' => e = .returned (.tuple #[.int .u64 n, .int .i64 (j : Int), .int .i64 0]) ∧ ∃ d, w' = (w.drewN m).drewN d) := fun m => by
      have := refGet_any (X.drop k) (.slice (some ⟨b, off + k, none⟩) (X.length - k) (c - k)) (w.drewN m) ((octs_drop hx hk hc).up (up_drewN w m))
      rw [hg] at this
      exact this
    clear hg hx
    go_enter Try.func49, Try.ntmps49
    go_wp2_with fail
    go_quiet ((go_at_call 59; exact Calls.quiet_of (HGQ.out _)))
    go_wp2
    go_ret
    exact ⟨rfl, HS.out _, HG.out _⟩

set_option maxHeartbeats 2000000 in
theorem refNum_good (N : Nat) (X : List Int) (a : Option Addr) (c k : Nat) (most code n : Int) (j : Nat) (w0 w : World) (h : RQ w0 w N X a c k 0) (hg : getRet (X.drop k) = .tuple #[.int .u64 n, .int .i64 (j : Int), .int .i64 0]) (hj : 1 ≤ j ∧ j ≤ (X.drop k).length) (hn : ¬ most < n) (hn0 : 0 ≤ n) (hm40 : most ≤ 1099511627776) :
    Calls Try.prog 49 #[.pointer (some ⟨N, 0, none⟩), .int .u64 most, .int .i64 code] w fun e w' => e = .returned (.int .i64 n) ∧ Hid (RQ w0 w' N X a c (k + j) 0) ∧ Hid (w.grownBy w' (some N)) := by
  have p0 : w.cell? ⟨N, 0, none⟩ = some (.slice a X.length c) := blk_cell h.blk 0 _ rfl
  have p1 : w.cell? ⟨N, 1, none⟩ = some (.int .i64 (k : Int)) := blk_cell h.blk 1 _ rfl
  have p2 : w.cell? ⟨N, 2, none⟩ = some (.int .i64 0) := blk_cell h.blk 2 _ rfl
  have z1 := blk_frozen h.blk 1
  rw [List.length_drop] at hj
  have hk := h.le
  have hxl := h.xl
  have HS : Hid (∀ d, RQ w0 ((w.drewN d).setCell ⟨N, 1, none⟩ (.int .i64 ((k : Int) + (j : Int)))) N X a c (k + j) 0) := fun d => by
    have := (h.upw (up_drewN w d)).setAt (k + j) (by omega)
    rw [Int.natCast_add] at this
    exact this
  have HG : Hid (∀ d, w.grownBy ((w.drewN d).setCell ⟨N, 1, none⟩ (.int .i64 ((k : Int) + (j : Int)))) (some N)) := fun d => grown_trans (grown_up (up_drewN w d) _) (grown_set _ _ _)
  have hx : Octs w (.slice a X.length c) X := h.octs.up h.up
  have hk' : (k : Int) ≤ (X.length : Int) := by omega
  have hk0 : (0 : Int) ≤ (k : Int) := by omega
  have hkj : (k : Int) + (j : Int) ≤ 140737488355328 := by omega
  have gw : IntKind.i64.wrap n = n := by simp [IntKind.wrap, IntKind.bits, IntKind.signed]; omega
  clear h
  rcases hx.form with ⟨rfl, rfl, rfl⟩ | ⟨x, rfl, rfl⟩ | ⟨b, off, rfl, hne, hc, hm⟩
  · simp at hj; omega
  · simp at hj; omega
  · unfold maxLen at hm
    have hcn : ¬ c = k := by omega
    have HGQ : Hid (∀ m, Calls Try.prog 59 #[.slice (some ⟨b, off + k, none⟩) (X.length - k) (c - k)] (w.drewN m) fun e w' => e = .returned (.tuple #[.int .u64 n, .int .i64 (j : Int), .int .i64 0]) ∧ ∃ d, w' = (w.drewN m).drewN d) := fun m => by
      have := refGet_any (X.drop k) (.slice (some ⟨b, off + k, none⟩) (X.length - k) (c - k)) (w.drewN m) ((octs_drop hx hk hc).up (up_drewN w m))
      rw [hg] at this
      exact this
    clear hg hx
    go_enter Try.func49, Try.ntmps49
    go_wp2_with fail
    go_quiet ((go_at_call 59; exact Calls.quiet_of (HGQ.out _)))
    go_wp2
    go_ret
    exact ⟨rfl, HS.out _, HG.out _⟩

/-- How a number ends. -/
def NumEnd (w0 w : World) (N : Nat) (X : List Int) (a : Option Addr) (c k : Nat) (most code : Int) (e : Ending) (w' : World) : Prop :=
  (∃ n j, numQ most code (X.drop k) = .ok (n, X.drop j) ∧ (0 ≤ n ∧ n ≤ most) ∧ e = .returned (.int .i64 n) ∧ RQ w0 w' N X a c j 0 ∧ w.grownBy w' (some N)) ∨
  (∃ y, numQ most code (X.drop k) = .error y ∧ e = .returned (.int .i64 0) ∧ RQ w0 w' N X a c k y ∧ w.grownBy w' (some N))

theorem refNum_any (N : Nat) (X : List Int) (a : Option Addr) (c k : Nat) (most code : Int) (w0 w : World) (h : RQ w0 w N X a c k 0) (hm : most ≤ 1099511627776) :
    Calls Try.prog 49 #[.pointer (some ⟨N, 0, none⟩), .int .u64 most, .int .i64 code] w fun e w' => NumEnd w0 w N X a c k most code e w' := by
  have hx : ∀ y ∈ X.drop k, 0 ≤ y ∧ y ≤ 255 := fun y hy => h.octs.1 y (List.mem_of_mem_drop hy)
  rcases get_says (X.drop k) hx with hg | hg | ⟨n, j, hg, n0, n1, j1, jl, ho, j9⟩
  · refine (refNum_get N X a c k most code 8 w0 w h hg (by decide)).mono ?_
    rintro e w' ⟨rfl, h1, h2⟩
    refine .inr ⟨8, ?_, rfl, h1.out, h2.out⟩
    unfold numQ
    rw [getRet_inj hg]
    rfl
  · refine (refNum_get N X a c k most code 4 w0 w h hg (by decide)).mono ?_
    rintro e w' ⟨rfl, h1, h2⟩
    refine .inr ⟨4, ?_, rfl, h1.out, h2.out⟩
    unfold numQ
    rw [getRet_inj hg]
    rfl
  · by_cases hb : most < n
    · refine (refNum_big N X a c k most code n j w0 w h hg ⟨j1, jl⟩ hb).mono ?_
      rintro e w' ⟨rfl, h1, h2⟩
      refine .inr ⟨code, ?_, rfl, h1.out, h2.out⟩
      unfold numQ
      rw [getRet_inj hg]
      simp only [if_true]
      rw [if_pos hb]
    · refine (refNum_good N X a c k most code n j w0 w h hg ⟨j1, jl⟩ hb n0 hm).mono ?_
      rintro e w' ⟨rfl, h1, h2⟩
      refine .inl ⟨n, k + j, ?_, ⟨n0, by omega⟩, rfl, h1.out, h2.out⟩
      unfold numQ
      rw [getRet_inj hg]
      simp only [if_true]
      rw [if_neg hb, Int.toNat_natCast, List.drop_drop]
end Go.Proofs.Ytibjjhceiohmeaa
