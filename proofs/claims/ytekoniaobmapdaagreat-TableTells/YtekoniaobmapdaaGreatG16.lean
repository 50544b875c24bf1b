/- The texts GRead, GTake, XTold, in this order. -/
import Derived.Test.YtekoniaobmapdaaGreatG08
import Derived.Test.YtekoniaobmapdaaGreatG14
import Derived.Test.YtekoniaobmapdaaGreatVRefGet

/- The document's reader of layer 6: numbers. -/
namespace Go.Proofs.YtekoniaobmapdaaGreat
open Go.RowKit SumPlain
set_option linter.unusedVariables false

/-- The document's reader at N: it stands at k in the octets X, its error is y. -/
structure RQ (w0 w : World) (N : Nat) (X : List Int) (a : Option Addr) (c k : Nat) (y : Int) : Prop where
  up : Below w0.heap.size w0 w
  n : w0.heap.size ≤ N
  blk : w.heap[N]? = some (.cells #[.slice a X.length c, .int .i64 (k : Int), .int .i64 y] 148)
  octs : Octs w0 (.slice a X.length c) X
  le : k ≤ X.length
  xl : X.length ≤ 140737488355328

theorem RQ.upw {w0 w w' : World} {N : Nat} {X : List Int} {a : Option Addr} {c k : Nat} {y : Int} (h : RQ w0 w N X a c k y) (hb : Below w.heap.size w w') : RQ w0 w' N X a c k y :=
  ⟨up_trans h.up hb, h.n, blk_up h.blk hb, h.octs, h.le, h.xl⟩
theorem RQ.far {w0 w w' : World} {N : Nat} {X : List Int} {a : Option Addr} {c k : Nat} {y : Int} {r : Option Nat} (h : RQ w0 w N X a c k y) (hg : w.grownBy w' r) (hr : ∀ g, r = some g → w0.heap.size ≤ g ∧ g ≠ N) : RQ w0 w' N X a c k y :=
  ⟨h.up.grown hg h.up.size (fun g e => (hr g e).1), h.n, blk_grown h.blk hg (fun e => (hr N e.symm).2 rfl), h.octs, h.le, h.xl⟩
theorem RQ.setAt {w0 w : World} {N : Nat} {X : List Int} {a : Option Addr} {c k : Nat} {y : Int} (h : RQ w0 w N X a c k y) (j : Nat) (hj : j ≤ X.length) : RQ w0 (w.setCell ⟨N, 1, none⟩ (.int .i64 (j : Int))) N X a c j y :=
  ⟨h.up.grown (grown_set _ _ _) h.up.size (fun g e => by have := h.n; simp at e; omega), h.n, blk_set h.blk 1 _, h.octs, hj, h.xl⟩
theorem RQ.setErr {w0 w : World} {N : Nat} {X : List Int} {a : Option Addr} {c k : Nat} {y : Int} (h : RQ w0 w N X a c k y) (z : Int) : RQ w0 (w.setCell ⟨N, 2, none⟩ (.int .i64 z)) N X a c k z :=
  ⟨h.up.grown (grown_set _ _ _) h.up.size (fun g e => by have := h.n; simp at e; omega), h.n, blk_set h.blk 2 _, h.octs, h.le, h.xl⟩

theorem numQ_err {most code : Int} (hc : code ≠ 0) {l : List Int} {y : Int} (h : numQ most code l = .error y) : y ≠ 0 := by
  unfold numQ at h
  split at h
  · split at h
    · injection h with h; subst h; exact hc
    · cases h
  · rename_i h0
    injection h with h
    subst h
    exact h0

theorem refNum_err (N : Nat) (X : List Int) (a : Option Addr) (c k : Nat) (y : Int) (most code : Int) (w0 w : World) (h : RQ w0 w N X a c k y) (hy : y ≠ 0) :
    Calls Tryz.prog 93 #[.pointer (some ⟨N, 0, none⟩), .int .u64 most, .int .i64 code] w fun e w' => e = .returned (.int .i64 0) ∧ w' = w := by
  have p2 : w.cell? ⟨N, 2, none⟩ = some (.int .i64 y) := blk_cell h.blk 2 _ rfl
  have y1 : (y == 0) = false := by simp [hy]
  have y2 : (y != 0) = true := by simp [hy]
  clear h
  go_enter Tryz.func93, Tryz.ntmps93
  go_wp2
  go_ret
  exact ⟨rfl, rfl⟩

theorem octs_drop {w : World} {b off c n : Nat} {l : List Int} (h : Octs w (.slice (some ⟨b, off, none⟩) l.length c) l) (hn : n ≤ l.length) (hc : l.length ≤ c) : Octs w (.slice (some ⟨b, off + n, none⟩) (l.length - n) (c - n)) (l.drop n) := h.back rfl n hn hc

set_option maxHeartbeats 2000000 in
theorem refNum_get (N : Nat) (X : List Int) (a : Option Addr) (c k : Nat) (most code y : Int) (w0 w : World) (h : RQ w0 w N X a c k 0) (hg : getRet (X.drop k) = .tuple #[.int .u64 0, .int .i64 0, .int .i64 y]) (hy : y ≠ 0) :
    Calls Tryz.prog 93 #[.pointer (some ⟨N, 0, none⟩), .int .u64 most, .int .i64 code] w fun e w' => e = .returned (.int .i64 0) ∧ Hid (RQ w0 w' N X a c k y) ∧ Hid (w.grownBy w' (some N)) := by
  have p0 : w.cell? ⟨N, 0, none⟩ = some (.slice a X.length c) := blk_cell h.blk 0 _ rfl
  have p1 : w.cell? ⟨N, 1, none⟩ = some (.int .i64 (k : Int)) := blk_cell h.blk 1 _ rfl
  have p2 : w.cell? ⟨N, 2, none⟩ = some (.int .i64 0) := blk_cell h.blk 2 _ rfl
  have z2 := blk_frozen h.blk 2
  have y1 : (y == 0) = false := by simp [hy]
  have y2 : (y != 0) = true := by simp [hy]
  have HS : Hid (∀ d, RQ w0 ((w.drewN d).setCell ⟨N, 2, none⟩ (.int .i64 y)) N X a c k y) := fun d => (h.upw (up_drewN w d)).setErr y
  have HG : Hid (∀ d, w.grownBy ((w.drewN d).setCell ⟨N, 2, none⟩ (.int .i64 y)) (some N)) := fun d => grown_trans (grown_up (up_drewN w d) _) (grown_set _ _ _)
  have hx : Octs w (.slice a X.length c) X := h.octs.up h.up
  have hk := h.le
  have hk' : (k : Int) ≤ (X.length : Int) := by omega
  have hk0 : (0 : Int) ≤ (k : Int) := by omega
  clear h
  rcases hx.form with ⟨rfl, rfl, rfl⟩ | ⟨x, rfl, rfl⟩ | ⟨b, off, rfl, hne, hc, hm⟩
  · simp at hk
    subst hk
    have HGQ : Hid (∀ m, Calls Tryz.prog 61 #[.slice none 0 0] (w.drewN m) fun e w' => e = .returned (.tuple #[.int .u64 0, .int .i64 0, .int .i64 y]) ∧ ∃ d, w' = (w.drewN m).drewN d) := fun m => by
      have := refGet_any (List.drop 0 ([] : List Int)) (.slice none 0 0) (w.drewN m) ((hx : Octs w (.slice none 0 0) (List.drop 0 ([] : List Int))).up (up_drewN w m))
      rw [hg] at this
      exact this
    clear hg hx
    go_enter Tryz.func93, Tryz.ntmps93
    go_wp2_with fail
    go_quiet ((go_at_call 61; exact Calls.quiet_of (HGQ.out _)))
    go_wp2
    go_ret
    exact ⟨rfl, HS.out _, HG.out _⟩
  · simp at hk
    subst hk
    by_cases hc0 : c = 0
    · subst hc0
      have HGQ : Hid (∀ m, Calls Tryz.prog 61 #[.slice (some x) 0 0] (w.drewN m) fun e w' => e = .returned (.tuple #[.int .u64 0, .int .i64 0, .int .i64 y]) ∧ ∃ d, w' = (w.drewN m).drewN d) := fun m => by
        have := refGet_any (List.drop 0 ([] : List Int)) (.slice (some x) 0 0) (w.drewN m) ((hx : Octs w (.slice (some x) 0 0) (List.drop 0 ([] : List Int))).up (up_drewN w m))
        rw [hg] at this
        exact this
      clear hg hx
      go_enter Tryz.func93, Tryz.ntmps93
      go_wp2_with fail
      go_quiet ((go_at_call 61; exact Calls.quiet_of (HGQ.out _)))
      go_wp2
      go_ret
      exact ⟨rfl, HS.out _, HG.out _⟩
    · skip
      have HGQ : Hid (∀ m, Calls Tryz.prog 61 #[.slice (some x) 0 c] (w.drewN m) fun e w' => e = .returned (.tuple #[.int .u64 0, .int .i64 0, .int .i64 y]) ∧ ∃ d, w' = (w.drewN m).drewN d) := fun m => by
        have := refGet_any (List.drop 0 ([] : List Int)) (.slice (some x) 0 c) (w.drewN m) ((hx : Octs w (.slice (some x) 0 c) (List.drop 0 ([] : List Int))).up (up_drewN w m))
        rw [hg] at this
        exact this
      clear hg hx
      go_enter Tryz.func93, Tryz.ntmps93
      go_wp2_with fail
      go_quiet ((go_at_call 61; exact Calls.quiet_of (HGQ.out _)))
      go_wp2
      go_ret
      exact ⟨rfl, HS.out _, HG.out _⟩
  · unfold maxLen at hm
    by_cases hcn : c = k
    · obtain rfl : k = X.length := by omega
      obtain rfl : c = X.length := hcn
      have HGQ : Hid (∀ m, Calls Tryz.prog 61 #[.slice (some ⟨b, off, none⟩) 0 0] (w.drewN m) fun e w' => e = .returned (.tuple #[.int .u64 0, .int .i64 0, .int .i64 y]) ∧ ∃ d, w' = (w.drewN m).drewN d) := fun m => by
        have := refGet_any (X.drop X.length) (.slice (some ⟨b, off, none⟩) 0 0) (w.drewN m) ((by rw [List.drop_length]; exact ⟨by simp, .inl ⟨rfl, _, _, rfl, fun e => by cases e⟩⟩ : Octs w (.slice (some ⟨b, off, none⟩) 0 0) (X.drop X.length)).up (up_drewN w m))
        rw [hg] at this
        exact this
      clear hg hx
      go_enter Tryz.func93, Tryz.ntmps93
      go_wp2_with fail
      go_quiet ((go_at_call 61; exact Calls.quiet_of (HGQ.out _)))
      go_wp2
      go_ret
      exact ⟨rfl, HS.out _, HG.out _⟩
    · skip
      have HGQ : Hid (∀ m, Calls Tryz.prog 61 #[.slice (some ⟨b, off + k, none⟩) (X.length - k) (c - k)] (w.drewN m) fun e w' => e = .returned (.tuple #[.int .u64 0, .int .i64 0, .int .i64 y]) ∧ ∃ d, w' = (w.drewN m).drewN d) := fun m => by
        have := refGet_any (X.drop k) (.slice (some ⟨b, off + k, none⟩) (X.length - k) (c - k)) (w.drewN m) ((octs_drop hx hk hc : Octs w (.slice (some ⟨b, off + k, none⟩) (X.length - k) (c - k)) (X.drop k)).up (up_drewN w m))
        rw [hg] at this
        exact this
      clear hg hx
      go_enter Tryz.func93, Tryz.ntmps93
      go_wp2_with fail
      go_quiet ((go_at_call 61; exact Calls.quiet_of (HGQ.out _)))
      go_wp2
      go_ret
      exact ⟨rfl, HS.out _, HG.out _⟩

set_option maxHeartbeats 2000000 in
theorem refNum_big (N : Nat) (X : List Int) (a : Option Addr) (c k : Nat) (most code n : Int) (j : Nat) (w0 w : World) (h : RQ w0 w N X a c k 0) (hg : getRet (X.drop k) = .tuple #[.int .u64 n, .int .i64 (j : Int), .int .i64 0]) (hj : 1 ≤ j ∧ j ≤ (X.drop k).length) (hn : most < n) :
    Calls Tryz.prog 93 #[.pointer (some ⟨N, 0, none⟩), .int .u64 most, .int .i64 code] w fun e w' => e = .returned (.int .i64 0) ∧ Hid (RQ w0 w' N X a c k code) ∧ Hid (w.grownBy w' (some N)) := by
  have p0 : w.cell? ⟨N, 0, none⟩ = some (.slice a X.length c) := blk_cell h.blk 0 _ rfl
  have p1 : w.cell? ⟨N, 1, none⟩ = some (.int .i64 (k : Int)) := blk_cell h.blk 1 _ rfl
  have p2 : w.cell? ⟨N, 2, none⟩ = some (.int .i64 0) := blk_cell h.blk 2 _ rfl
  have z2 := blk_frozen h.blk 2
  have HS : Hid (∀ d, RQ w0 ((w.drewN d).setCell ⟨N, 2, none⟩ (.int .i64 code)) N X a c k code) := fun d => (h.upw (up_drewN w d)).setErr code
  have HG : Hid (∀ d, w.grownBy ((w.drewN d).setCell ⟨N, 2, none⟩ (.int .i64 code)) (some N)) := fun d => grown_trans (grown_up (up_drewN w d) _) (grown_set _ _ _)
  have hx : Octs w (.slice a X.length c) X := h.octs.up h.up
  have hk := h.le
  have hk' : (k : Int) ≤ (X.length : Int) := by omega
  have hk0 : (0 : Int) ≤ (k : Int) := by omega
  rw [List.length_drop] at hj
  clear h
  rcases hx.form with ⟨rfl, rfl, rfl⟩ | ⟨x, rfl, rfl⟩ | ⟨b, off, rfl, hne, hc, hm⟩
  · simp at hj; omega
  · simp at hj; omega
  · unfold maxLen at hm
    have hcn : ¬ c = k := by omega
    have HGQ : Hid (∀ m, Calls Tryz.prog 61 #[.slice (some ⟨b, off + k, none⟩) (X.length - k) (c - k)] (w.drewN m) fun e w' => e = .returned (.tuple #[.int .u64 n, .int .i64 (j : Int), .int .i64 0]) ∧ ∃ d, w' = (w.drewN m).drewN d) := fun m => by
      have := refGet_any (X.drop k) (.slice (some ⟨b, off + k, none⟩) (X.length - k) (c - k)) (w.drewN m) ((octs_drop hx hk hc).up (up_drewN w m))
      rw [hg] at this
      exact this
    clear hg hx
    go_enter Tryz.func93, Tryz.ntmps93
    go_wp2_with fail
    go_quiet ((go_at_call 61; exact Calls.quiet_of (HGQ.out _)))
    go_wp2
    go_ret
    exact ⟨rfl, HS.out _, HG.out _⟩

set_option maxHeartbeats 2000000 in
theorem refNum_good (N : Nat) (X : List Int) (a : Option Addr) (c k : Nat) (most code n : Int) (j : Nat) (w0 w : World) (h : RQ w0 w N X a c k 0) (hg : getRet (X.drop k) = .tuple #[.int .u64 n, .int .i64 (j : Int), .int .i64 0]) (hj : 1 ≤ j ∧ j ≤ (X.drop k).length) (hn : ¬ most < n) (hn0 : 0 ≤ n) (hm40 : most ≤ 1099511627776) :
    Calls Tryz.prog 93 #[.pointer (some ⟨N, 0, none⟩), .int .u64 most, .int .i64 code] w fun e w' => e = .returned (.int .i64 n) ∧ Hid (RQ w0 w' N X a c (k + j) 0) ∧ Hid (w.grownBy w' (some N)) := by
  have p0 : w.cell? ⟨N, 0, none⟩ = some (.slice a X.length c) := blk_cell h.blk 0 _ rfl
  have p1 : w.cell? ⟨N, 1, none⟩ = some (.int .i64 (k : Int)) := blk_cell h.blk 1 _ rfl
  have p2 : w.cell? ⟨N, 2, none⟩ = some (.int .i64 0) := blk_cell h.blk 2 _ rfl
  have z1 := blk_frozen h.blk 1
  rw [List.length_drop] at hj
  have hk := h.le
  have hxl := h.xl
  have HS : Hid (∀ d, RQ w0 ((w.drewN d).setCell ⟨N, 1, none⟩ (.int .i64 ((k : Int) + (j : Int)))) N X a c (k + j) 0) := fun d => by
    have := (h.upw (up_drewN w d)).setAt (k + j) (by omega)
    rw [Int.natCast_add] at this
    exact this
  have HG : Hid (∀ d, w.grownBy ((w.drewN d).setCell ⟨N, 1, none⟩ (.int .i64 ((k : Int) + (j : Int)))) (some N)) := fun d => grown_trans (grown_up (up_drewN w d) _) (grown_set _ _ _)
  have hx : Octs w (.slice a X.length c) X := h.octs.up h.up
  have hk' : (k : Int) ≤ (X.length : Int) := by omega
  have hk0 : (0 : Int) ≤ (k : Int) := by omega
  have hkj : (k : Int) + (j : Int) ≤ 140737488355328 := by omega
  have gw : IntKind.i64.wrap n = n := by simp [IntKind.wrap, IntKind.bits, IntKind.signed]; omega
  clear h
  rcases hx.form with ⟨rfl, rfl, rfl⟩ | ⟨x, rfl, rfl⟩ | ⟨b, off, rfl, hne, hc, hm⟩
  · simp at hj; omega
  · simp at hj; omega
  · unfold maxLen at hm
    have hcn : ¬ c = k := by omega
    have HGQ : Hid (∀ m, Calls Tryz.prog 61 #[.slice (some ⟨b, off + k, none⟩) (X.length - k) (c - k)] (w.drewN m) fun e w' => e = .returned (.tuple #[.int .u64 n, .int .i64 (j : Int), .int .i64 0]) ∧ ∃ d, w' = (w.drewN m).drewN d) := fun m => by
      have := refGet_any (X.drop k) (.slice (some ⟨b, off + k, none⟩) (X.length - k) (c - k)) (w.drewN m) ((octs_drop hx hk hc).up (up_drewN w m))
      rw [hg] at this
      exact this
    clear hg hx
    go_enter Tryz.func93, Tryz.ntmps93
    go_wp2_with fail
    go_quiet ((go_at_call 61; exact Calls.quiet_of (HGQ.out _)))
    go_wp2
    go_ret
    exact ⟨rfl, HS.out _, HG.out _⟩

/-- How a number ends. -/
def NumEnd (w0 w : World) (N : Nat) (X : List Int) (a : Option Addr) (c k : Nat) (most code : Int) (e : Ending) (w' : World) : Prop :=
  (∃ n j, numQ most code (X.drop k) = .ok (n, X.drop j) ∧ (0 ≤ n ∧ n ≤ most) ∧ e = .returned (.int .i64 n) ∧ RQ w0 w' N X a c j 0 ∧ w.grownBy w' (some N)) ∨
  (∃ y, numQ most code (X.drop k) = .error y ∧ e = .returned (.int .i64 0) ∧ RQ w0 w' N X a c k y ∧ w.grownBy w' (some N))

theorem refNum_any (N : Nat) (X : List Int) (a : Option Addr) (c k : Nat) (most code : Int) (w0 w : World) (h : RQ w0 w N X a c k 0) (hm : most ≤ 1099511627776) :
    Calls Tryz.prog 93 #[.pointer (some ⟨N, 0, none⟩), .int .u64 most, .int .i64 code] w fun e w' => NumEnd w0 w N X a c k most code e w' := by
  have hx : ∀ y ∈ X.drop k, 0 ≤ y ∧ y ≤ 255 := fun y hy => h.octs.1 y (List.mem_of_mem_drop hy)
  rcases get_says (X.drop k) hx with hg | hg | ⟨n, j, hg, n0, n1, j1, jl, ho, j9⟩
  · refine (refNum_get N X a c k most code 8 w0 w h hg (by decide)).mono ?_
    rintro e w' ⟨rfl, h1, h2⟩
    refine .inr ⟨8, ?_, rfl, h1.out, h2.out⟩
    unfold numQ
    rw [getRet_inj hg]
    rfl
  · refine (refNum_get N X a c k most code 4 w0 w h hg (by decide)).mono ?_
    rintro e w' ⟨rfl, h1, h2⟩
    refine .inr ⟨4, ?_, rfl, h1.out, h2.out⟩
    unfold numQ
    rw [getRet_inj hg]
    rfl
  · by_cases hb : most < n
    · refine (refNum_big N X a c k most code n j w0 w h hg ⟨j1, jl⟩ hb).mono ?_
      rintro e w' ⟨rfl, h1, h2⟩
      refine .inr ⟨code, ?_, rfl, h1.out, h2.out⟩
      unfold numQ
      rw [getRet_inj hg]
      simp only [if_true]
      rw [if_pos hb]
    · refine (refNum_good N X a c k most code n j w0 w h hg ⟨j1, jl⟩ hb n0 hm).mono ?_
      rintro e w' ⟨rfl, h1, h2⟩
      refine .inl ⟨n, k + j, ?_, ⟨n0, by omega⟩, rfl, h1.out, h2.out⟩
      unfold numQ
      rw [getRet_inj hg]
      simp only [if_true]
      rw [if_neg hb, Int.toNat_natCast, List.drop_drop]
end Go.Proofs.YtekoniaobmapdaaGreat

/- The document's reader of layer 6: octets taken, texts. -/
namespace Go.Proofs.YtekoniaobmapdaaGreat
open Go.RowKit SumPlain
set_option linter.unusedVariables false

theorem refTake_err (N : Nat) (X : List Int) (a : Option Addr) (c k : Nat) (y m : Int) (w0 w : World) (h : RQ w0 w N X a c k y) (hy : y ≠ 0) :
    Calls Tryz.prog 94 #[.pointer (some ⟨N, 0, none⟩), .int .i64 m] w fun e w' => e = .returned (.slice none 0 0) ∧ w' = w := by
  have p2 : w.cell? ⟨N, 2, none⟩ = some (.int .i64 y) := blk_cell h.blk 2 _ rfl
  have y1 : (y == 0) = false := by simp [hy]
  have y2 : (y != 0) = true := by simp [hy]
  clear h
  go_enter Tryz.func94, Tryz.ntmps94
  go_wp2
  go_ret
  exact ⟨rfl, rfl⟩

set_option maxHeartbeats 1000000 in
theorem refTake_short (N : Nat) (X : List Int) (a : Option Addr) (c k : Nat) (m : Nat) (w0 w : World) (h : RQ w0 w N X a c k 0) (hm : X.length - k < m) (hm2 : m ≤ 65536) :
    Calls Tryz.prog 94 #[.pointer (some ⟨N, 0, none⟩), .int .i64 m] w fun e w' => e = .returned (.slice none 0 0) ∧ Hid (RQ w0 w' N X a c k 8) ∧ Hid (w.grownBy w' (some N)) := by
  have p0 : w.cell? ⟨N, 0, none⟩ = some (.slice a X.length c) := blk_cell h.blk 0 _ rfl
  have p1 : w.cell? ⟨N, 1, none⟩ = some (.int .i64 (k : Int)) := blk_cell h.blk 1 _ rfl
  have p2 : w.cell? ⟨N, 2, none⟩ = some (.int .i64 0) := blk_cell h.blk 2 _ rfl
  have z2 := blk_frozen h.blk 2
  have hk := h.le
  have hxl := h.xl
  have gw : IntKind.i64.wrap ((X.length : Int) - (k : Int)) = (X.length : Int) - (k : Int) := wrap64_id _ (by omega) (by omega)
  have gl : (X.length : Int) - (k : Int) < (m : Int) := by omega
  have HS : Hid (∀ d, RQ w0 ((w.drewN d).setCell ⟨N, 2, none⟩ (.int .i64 8)) N X a c k 8) := fun d => (h.upw (up_drewN w d)).setErr 8
  have HG : Hid (∀ d, w.grownBy ((w.drewN d).setCell ⟨N, 2, none⟩ (.int .i64 8)) (some N)) := fun d => grown_trans (grown_up (up_drewN w d) _) (grown_set _ _ _)
  clear h
  go_enter Tryz.func94, Tryz.ntmps94
  go_wp2_with fail
  go_quiet (fail)
  go_wp2
  go_ret
  exact ⟨rfl, HS.out _, HG.out _⟩

/-- The middle of a slice, as Go cuts it. -/
theorem octs_mid {w : World} {b off c k m : Nat} {X : List Int} (h : Octs w (.slice (some ⟨b, off, none⟩) X.length c) X) (hk : k + m ≤ X.length) (hc : X.length ≤ c) : Octs w (.slice (some ⟨b, off + k, none⟩) m (c - k)) ((X.drop k).take m) := by
  have h1 := octs_drop h (n := k) (by omega) hc
  have e : (X.drop k).length = X.length - k := List.length_drop
  have h2 := h1.cut e.symm m (by omega)
  exact h2

set_option maxHeartbeats 2000000 in
theorem refTake_ok (N : Nat) (X : List Int) (a : Option Addr) (c k m : Nat) (w0 w : World) (h : RQ w0 w N X a c k 0) (hm : k + m ≤ X.length) (hm2 : m ≤ 65536) :
    Calls Tryz.prog 94 #[.pointer (some ⟨N, 0, none⟩), .int .i64 m] w fun e w' => ∃ a' c', e = .returned (.slice a' m c') ∧ Hid (OwnB w' w.heap.size (.slice a' m c') ((X.drop k).take m)) ∧ Hid (RQ w0 w' N X a c (k + m) 0) ∧ Hid (w.grownBy w' (some N)) := by
  have p0 : w.cell? ⟨N, 0, none⟩ = some (.slice a X.length c) := blk_cell h.blk 0 _ rfl
  have p1 : w.cell? ⟨N, 1, none⟩ = some (.int .i64 (k : Int)) := blk_cell h.blk 1 _ rfl
  have p2 : w.cell? ⟨N, 2, none⟩ = some (.int .i64 0) := blk_cell h.blk 2 _ rfl
  have z1 := blk_frozen h.blk 1
  have hxl := h.xl
  have gw : IntKind.i64.wrap ((X.length : Int) - (k : Int)) = (X.length : Int) - (k : Int) := wrap64_id _ (by omega) (by omega)
  have gl : ¬ (X.length : Int) - (k : Int) < (m : Int) := by omega
  have gs : IntKind.i64.wrap ((k : Int) + (m : Int)) = (k : Int) + (m : Int) := wrap64_id _ (by omega) (by omega)
  have gd : IntKind.i64.wrap ((k : Int) + (m : Int) - (m : Int)) = (k : Int) := by rw [Int.add_sub_cancel]; exact wrap64_id _ (by omega) (by omega)
  have gk : IntKind.i64.wrap (k : Int) = (k : Int) := wrap64_id _ (by omega) (by omega)
  have gk0 : (0 : Int) ≤ (k : Int) := by omega
  have gkm : (k : Int) ≤ (k : Int) + (m : Int) := by omega
  have gkm0 : (0 : Int) ≤ (k : Int) + (m : Int) := by omega
  have gtn : ((k : Int) + (m : Int)).toNat - k = m := by omega
  have gtm : ((k : Int) + (m : Int)).toNat = k + m := by omega
  have HR : Hid (∀ d, RQ w0 ((w.drewN d).setCell ⟨N, 1, none⟩ (.int .i64 ((k : Int) + (m : Int)))) N X a c (k + m) 0) := fun d => by
    have := (h.upw (up_drewN w d)).setAt (k + m) hm
    rw [Int.natCast_add] at this
    exact this
  have HG : Hid (∀ d, w.grownBy ((w.drewN d).setCell ⟨N, 1, none⟩ (.int .i64 ((k : Int) + (m : Int)))) (some N)) := fun d => grown_trans (grown_up (up_drewN w d) _) (grown_set _ _ _)
  have h4 : Octs w0 (.slice a X.length c) X := h.octs
  have hX := h4.1
  clear h
  go_enter Tryz.func94, Tryz.ntmps94
  go_wp2_with fail
  go_quiet (fail)
  go_wp2_with fail
  have HR2 : Hid (RQ w0 ((w.drewN nq).setCell ⟨N, 1, none⟩ (.int .i64 ((k : Int) + (m : Int)))) N X a c (k + m) 0) := HR.out nq
  have HG2 : Hid (w.grownBy ((w.drewN nq).setCell ⟨N, 1, none⟩ (.int .i64 ((k : Int) + (m : Int)))) (some N)) := HG.out nq
  generalize (w.drewN nq).setCell ⟨N, 1, none⟩ (.int .i64 ((k : Int) + (m : Int))) = w2 at *
  have x0 : w2.cell? ⟨N, 0, none⟩ = some (.slice a X.length c) := blk_cell HR2.out.blk 0 _ rfl
  have x1 : w2.cell? ⟨N, 1, none⟩ = some (.int .i64 ((k : Int) + (m : Int))) := by
    have := blk_cell HR2.out.blk 1 _ rfl
    rw [this]
    simp
  have HCP : Hid (∀ v', Octs w0 v' ((X.drop k).take m) → Calls Tryz.prog 54 #[v'] w2.drew fun e w' => ∃ a' c', e = .returned (.slice a' m c') ∧ w'.cell? ⟨N, 0, none⟩ = some (.slice a X.length c) ∧ w'.cell? ⟨N, 1, none⟩ = some (.int .i64 ((k : Int) + (m : Int))) ∧ Hid (OwnB w' w.heap.size (.slice a' m c') ((X.drop k).take m)) ∧ Hid (RQ w0 w' N X a c (k + m) 0) ∧ Hid (w.grownBy w' (some N))) := by
    intro v' hv'
    refine (copied_any ((X.drop k).take m) v' w2.drew (hv'.up (up_trans HR2.out.up (up_dr (Below.refl _ _)))) (by rw [List.length_take, List.length_drop]; omega)).mono ?_
    rintro e w' ⟨v3, rfl, ho, hb⟩
    have hb' : Below w2.heap.size w2 w' := up_trans (up_dr (Below.refl _ _)) hb
    have q2 := HR2.out.upw hb'
    have hO : OwnB w' w.heap.size v3 ((X.drop k).take m) := OwnB.mono ho HG2.out.size
    obtain ⟨a', c', rfl, _⟩ := own_len hO
    have e : ((X.drop k).take m).length = m := by rw [List.length_take, List.length_drop]; omega
    rw [e] at hO ⊢
    refine ⟨a', c', rfl, blk_cell q2.blk 0 _ rfl, ?_, hO, q2, grown_trans HG2.out (grown_up hb' _)⟩
    rw [blk_cell q2.blk 1 _ rfl]
    simp
  clear HR HG HR2 HG2 p0 p1 p2 z1
  rcases h4.form with ⟨rfl, rfl, rfl⟩ | ⟨x, rfl, rfl⟩ | ⟨b, off, rfl, hne, hc, hcm⟩
  · obtain rfl : k = 0 := by simp at hm; omega
    obtain rfl : m = 0 := by simp at hm; omega
    replace x1 : w2.cell? ⟨N, 1, none⟩ = some (.int .i64 0) := x1
    replace x0 : w2.cell? ⟨N, 0, none⟩ = some (.slice none 0 0) := x0
    clear gs gd gk gk0 gkm gkm0 gtn gtm gw gl
    simp only [show ((0 : Nat) : Int) = 0 from rfl]
    have HCP2 : Hid (Calls Tryz.prog 54 #[.slice none 0 0] w2.drew fun e w' => ∃ a' c', e = .returned (.slice a' 0 c') ∧ w'.cell? ⟨N, 0, none⟩ = some (.slice none 0 0) ∧ w'.cell? ⟨N, 1, none⟩ = some (.int .i64 0) ∧ Hid (OwnB w' w.heap.size (.slice a' 0 c') ((([] : List Int).drop 0).take 0)) ∧ Hid (RQ w0 w' N [] (none) 0 (0 + 0) 0) ∧ Hid (w.grownBy w' (some N))) := HCP.out _ (by exact ⟨by simp, .inl ⟨by simp, _, _, rfl, fun _ => rfl⟩⟩)
    clear HCP h4
    go_region_with ((go_at_call 54; with_reducible refine HCP2.out.mono ?_; rintro e w3 ⟨a3, c3, rfl, y0, y1, O3, R3, G3⟩))
    all_goals
      go_wp2
      go_ret
      exact ⟨_, _, rfl, O3, R3, G3⟩
  · obtain rfl : k = 0 := by simp at hm; omega
    obtain rfl : m = 0 := by simp at hm; omega
    replace x1 : w2.cell? ⟨N, 1, none⟩ = some (.int .i64 0) := x1
    replace x0 : w2.cell? ⟨N, 0, none⟩ = some (.slice (some x) 0 c) := x0
    clear gs gd gk gk0 gkm gkm0 gtn gtm gw gl
    simp only [show ((0 : Nat) : Int) = 0 from rfl]
    by_cases hc0 : c = 0
    · subst hc0
      have HCP2 : Hid (Calls Tryz.prog 54 #[.slice (some x) 0 0] w2.drew fun e w' => ∃ a' c', e = .returned (.slice a' 0 c') ∧ w'.cell? ⟨N, 0, none⟩ = some (.slice (some x) 0 0) ∧ w'.cell? ⟨N, 1, none⟩ = some (.int .i64 0) ∧ Hid (OwnB w' w.heap.size (.slice a' 0 c') ((([] : List Int).drop 0).take 0)) ∧ Hid (RQ w0 w' N [] (some x) 0 (0 + 0) 0) ∧ Hid (w.grownBy w' (some N))) := HCP.out _ (by exact ⟨by simp, .inl ⟨by simp, _, _, rfl, fun e => by cases e⟩⟩)
      clear HCP h4
      go_region_with ((go_at_call 54; with_reducible refine HCP2.out.mono ?_; rintro e w3 ⟨a3, c3, rfl, y0, y1, O3, R3, G3⟩))
      all_goals
        go_wp2
        go_ret
        exact ⟨_, _, rfl, O3, R3, G3⟩
    · skip
      have HCP2 : Hid (Calls Tryz.prog 54 #[.slice (some x) 0 c] w2.drew fun e w' => ∃ a' c', e = .returned (.slice a' 0 c') ∧ w'.cell? ⟨N, 0, none⟩ = some (.slice (some x) 0 c) ∧ w'.cell? ⟨N, 1, none⟩ = some (.int .i64 0) ∧ Hid (OwnB w' w.heap.size (.slice a' 0 c') ((([] : List Int).drop 0).take 0)) ∧ Hid (RQ w0 w' N [] (some x) c (0 + 0) 0) ∧ Hid (w.grownBy w' (some N))) := HCP.out _ (by exact ⟨by simp, .inl ⟨by simp, _, _, rfl, fun e => by cases e⟩⟩)
      clear HCP h4
      go_region_with ((go_at_call 54; with_reducible refine HCP2.out.mono ?_; rintro e w3 ⟨a3, c3, rfl, y0, y1, O3, R3, G3⟩))
      all_goals
        go_wp2
        go_ret
        exact ⟨_, _, rfl, O3, R3, G3⟩
  · unfold maxLen at hcm
    have hkc : (k : Int) + (m : Int) ≤ (c : Int) := by omega
    by_cases hcn : c = k
    · obtain rfl : k = X.length := by omega
      obtain rfl : c = X.length := hcn
      obtain rfl : m = 0 := by omega
      clear gtn gtm
      have HCP2 : Hid (Calls Tryz.prog 54 #[.slice (some ⟨b, off, none⟩) 0 0] w2.drew fun e w' => ∃ a' c', e = .returned (.slice a' 0 c') ∧ w'.cell? ⟨N, 0, none⟩ = some (.slice (some ⟨b, off, none⟩) X.length X.length) ∧ w'.cell? ⟨N, 1, none⟩ = some (.int .i64 ((X.length : Int) + ((0 : Nat) : Int))) ∧ Hid (OwnB w' w.heap.size (.slice a' 0 c') ((X.drop X.length).take 0)) ∧ Hid (RQ w0 w' N X ((some ⟨b, off, none⟩)) X.length (X.length + 0) 0) ∧ Hid (w.grownBy w' (some N))) := HCP.out _ (by exact ⟨by simp, .inl ⟨by simp, _, _, rfl, fun e => by cases e⟩⟩)
      clear HCP h4
      go_region_held3 (fun w' => w'.cell? ⟨N, 0, none⟩ = some (.slice (some ⟨b, off, none⟩) X.length X.length) ∧ w'.cell? ⟨N, 1, none⟩ = some (.int .i64 ((X.length : Int) + ((0 : Nat) : Int)))) (first | with_reducible exact ⟨y0, y1⟩ | with_reducible exact ⟨x0, x1⟩ | (simp [go_sem, x0, x1]; done)) (first
        | (go_at_call 54; with_reducible refine HCP2.out.mono ?_; rintro e w3 ⟨a3, c3, rfl, y0, y1, O3, R3, G3⟩))
      all_goals
        go_wp2
        go_ret
        exact ⟨_, _, rfl, O3, R3, G3⟩
    · skip
      have HCP2 : Hid (Calls Tryz.prog 54 #[.slice (some ⟨b, off + k, none⟩) m (c - k)] w2.drew fun e w' => ∃ a' c', e = .returned (.slice a' m c') ∧ w'.cell? ⟨N, 0, none⟩ = some (.slice (some ⟨b, off, none⟩) X.length c) ∧ w'.cell? ⟨N, 1, none⟩ = some (.int .i64 ((k : Int) + (m : Int))) ∧ Hid (OwnB w' w.heap.size (.slice a' m c') ((X.drop k).take m)) ∧ Hid (RQ w0 w' N X ((some ⟨b, off, none⟩)) c (k + m) 0) ∧ Hid (w.grownBy w' (some N))) := HCP.out _ (octs_mid h4 hm hc)
      clear HCP h4
      go_region_held3 (fun w' => w'.cell? ⟨N, 0, none⟩ = some (.slice (some ⟨b, off, none⟩) X.length c) ∧ w'.cell? ⟨N, 1, none⟩ = some (.int .i64 ((k : Int) + (m : Int)))) (first | with_reducible exact ⟨y0, y1⟩ | with_reducible exact ⟨x0, x1⟩ | (simp [go_sem, x0, x1]; done)) (first
        | (go_at_call 54; with_reducible refine HCP2.out.mono ?_; rintro e w3 ⟨a3, c3, rfl, y0, y1, O3, R3, G3⟩))
      all_goals
        go_wp2
        go_ret
        exact ⟨_, _, rfl, O3, R3, G3⟩
end Go.Proofs.YtekoniaobmapdaaGreat

/- The document's reader, one ending a call; what seven calls say of one version. -/
namespace Go.Proofs.YtekoniaobmapdaaGreat
open Go.RowKit SumPlain
set_option linter.unusedVariables false

/-- The reader behind a number. -/
def NumS (X : List Int) (most : Int) (j : Nat) (y : Int) (n j' : Nat) (y' : Int) : Prop :=
  (n : Int) ≤ most ∧ ((y' = 0 ∧ y = 0 ∧ numQ most 21 (X.drop j) = .ok ((n : Int), X.drop j')) ∨ (y' ≠ 0 ∧ (y ≠ 0 ∨ ∃ z, numQ most 21 (X.drop j) = .error z)))
/-- The reader behind octets. -/
def TakeS (X : List Int) (m j : Nat) (y : Int) (l : List Int) (j' : Nat) (y' : Int) : Prop :=
  (y' = 0 ∧ y = 0 ∧ j + m ≤ X.length ∧ j' = j + m ∧ l = (X.drop j).take m) ∨ (y' ≠ 0 ∧ l = [] ∧ (y ≠ 0 ∨ X.length - j < m))

theorem refNum_s (N : Nat) (X : List Int) (a : Option Addr) (c k : Nat) (y most : Int) (w0 w : World) (h : RQ w0 w N X a c k y) (h0 : 0 ≤ most) (hm : most ≤ 1099511627776) :
    Calls Tryz.prog 93 #[.pointer (some ⟨N, 0, none⟩), .int .u64 most, .int .i64 21] w fun e w' => ∃ (n j : Nat) (y' : Int), e = .returned (.int .i64 (n : Int)) ∧ Hid (NumS X most k y n j y') ∧ Hid (RQ w0 w' N X a c j y') ∧ Hid (w.grownBy w' (some N)) := by
  by_cases hy : y = 0
  · subst hy
    refine (refNum_any N X a c k most 21 w0 w h hm).mono ?_
    rintro e w' (⟨n, j, hq, hn, rfl, R, G⟩ | ⟨z, hq, rfl, R, G⟩)
    · obtain ⟨n, rfl⟩ : ∃ m : Nat, n = (m : Int) := ⟨n.toNat, by omega⟩
      exact ⟨n, j, 0, rfl, ⟨hn.2, .inl ⟨rfl, rfl, hq⟩⟩, R, G⟩
    · exact ⟨0, k, z, rfl, ⟨h0, .inr ⟨numQ_err (by decide) hq, .inr ⟨z, hq⟩⟩⟩, R, G⟩
  · refine (refNum_err N X a c k y most 21 w0 w h hy).mono ?_
    rintro e w' ⟨rfl, rfl⟩
    exact ⟨0, k, y, rfl, ⟨h0, .inr ⟨hy, .inl hy⟩⟩, h, grown_refl _ _⟩

theorem refTake_s (N : Nat) (X : List Int) (a : Option Addr) (c k m : Nat) (y : Int) (w0 w : World) (h : RQ w0 w N X a c k y) (hm : m ≤ 65536) :
    Calls Tryz.prog 94 #[.pointer (some ⟨N, 0, none⟩), .int .i64 (m : Int)] w fun e w' => ∃ (a' : Option Addr) (n' c' : Nat) (l : List Int) (j : Nat) (y' : Int), e = .returned (.slice a' n' c') ∧ Hid (TakeS X m k y l j y') ∧ Hid (OwnB w' w.heap.size (.slice a' n' c') l) ∧ Hid (RQ w0 w' N X a c j y') ∧ Hid (w.grownBy w' (some N)) := by
  by_cases hy : y = 0
  · subst hy
    by_cases hl : X.length - k < m
    · refine (refTake_short N X a c k m w0 w h hl hm).mono ?_
      rintro e w' ⟨rfl, R, G⟩
      exact ⟨none, 0, 0, [], k, 8, rfl, .inr ⟨by decide, rfl, .inr hl⟩, OwnB.nil _ _, R, G⟩
    · have hk := h.le
      refine (refTake_ok N X a c k m w0 w h (by omega) hm).mono ?_
      rintro e w' ⟨a', c', rfl, O, R, G⟩
      exact ⟨a', m, c', _, k + m, 0, rfl, .inl ⟨rfl, rfl, by omega, rfl, rfl⟩, O, R, G⟩
  · refine (refTake_err N X a c k y (m : Int) w0 w h hy).mono ?_
    rintro e w' ⟨rfl, rfl⟩
    exact ⟨none, 0, 0, [], k, y, rfl, .inr ⟨hy, rfl, .inl hy⟩, OwnB.nil _ _, h, grown_refl _ _⟩

theorem numQ_len {most code : Int} {l r : List Int} {n : Int} (h : numQ most code l = .ok (n, r)) : r.length ≤ l.length := by
  unfold numQ at h
  split at h
  · split at h
    · cases h
    · simp only [Except.ok.injEq, Prod.mk.injEq] at h
      rw [← h.2, List.length_drop]
      omega
  · cases h

/-- Seven calls of the reader. -/
structure Seven (X : List Int) (j0 n k s v : Nat) (d r u : List Int) (j7 : Nat) (y7 : Int) : Prop where
  ex : ∃ (j1 j2 j3 j4 j5 j6 : Nat) (y1 y2 y3 y4 y5 y6 : Int), NumS X 65536 j0 0 n j1 y1 ∧ NumS X 65536 j1 y1 k j2 y2 ∧ NumS X 1099511627776 j2 y2 s j3 y3 ∧ NumS X 65536 j3 y3 v j4 y4 ∧ TakeS X 1 j4 y4 d j5 y5 ∧ TakeS X k j5 y5 r j6 y6 ∧ TakeS X v j6 y6 u j7 y7 ∧ j0 ≤ X.length ∧ j1 ≤ X.length ∧ j2 ≤ X.length ∧ j3 ≤ X.length ∧ j4 ≤ X.length

theorem Seven.bad {X prev : List Int} {j0 n k s v : Nat} {d r u : List Int} {j7 : Nat} {y7 : Int} (h : Seven X j0 n k s v d r u j7 y7) (hy : y7 ≠ 0) : entP prev (X.drop j0) = none := by
  obtain ⟨j1, j2, j3, j4, j5, j6, y1, y2, y3, y4, y5, y6, N1, N2, N3, N4, T1, T2, T3, l0, l1, l2, l3, l4⟩ := h
  unfold entP
  rcases N1.2 with ⟨rfl, _, q1⟩ | ⟨_, e | ⟨z, q1⟩⟩
  · rw [q1]
    simp only
    rcases N2.2 with ⟨rfl, _, q2⟩ | ⟨_, e | ⟨z, q2⟩⟩
    · rw [q2]
      simp only
      rcases N3.2 with ⟨rfl, _, q3⟩ | ⟨_, e | ⟨z, q3⟩⟩
      · rw [q3]
        simp only
        rcases N4.2 with ⟨rfl, _, q4⟩ | ⟨_, e | ⟨z, q4⟩⟩
        · rw [q4]
          simp only
          rcases T1 with ⟨rfl, _, t1, rfl, _⟩ | ⟨_, _, e | t1⟩
          · rw [drop_at X j4 (by omega)]
            simp only
            rw [if_pos]
            rw [List.length_drop]
            rcases T2 with ⟨rfl, _, t2, rfl, _⟩ | ⟨_, _, e | t2⟩
            · rcases T3 with ⟨rfl, _, t3, rfl, _⟩ | ⟨_, _, e | t3⟩
              · exact absurd rfl hy
              · exact absurd rfl e
              · right; left; omega
            · exact absurd rfl e
            · left; omega
          · exact absurd rfl e
          · rw [List.drop_of_length_le (by omega)]
        · exact absurd rfl e
        · rw [q4]
      · exact absurd rfl e
      · rw [q3]
    · exact absurd rfl e
    · rw [q2]
  · exact absurd rfl e
  · rw [q1]

theorem Seven.fine {X : List Int} {j0 n k s v : Nat} {d r u : List Int} {j7 : Nat} (h : Seven X j0 n k s v d r u j7 0) (prev : List Int) : ∃ x, d = [x] ∧ j0 < j7 ∧ j7 ≤ X.length ∧ (s : Int) ≤ 1099511627776 ∧ n ≤ 65536 ∧
    entP prev (X.drop j0) = if prev.length < n then none else some (⟨strOfNums (prev.take n ++ r), (s : Int), x, strOfNums u⟩, prev.take n ++ r, X.drop j7) := by
  obtain ⟨j1, j2, j3, j4, j5, j6, y1, y2, y3, y4, y5, y6, N1, N2, N3, N4, T1, T2, T3, l0, l1, l2, l3, l4⟩ := h
  rcases T3 with ⟨_, rfl, t3, rfl, rfl⟩ | ⟨e, _⟩
  · rcases T2 with ⟨_, rfl, t2, rfl, rfl⟩ | ⟨e, _⟩
    · rcases T1 with ⟨_, rfl, t1, rfl, rfl⟩ | ⟨e, _⟩
      · obtain ⟨m4, ⟨_, rfl, q4⟩ | ⟨e, _⟩⟩ := N4
        · obtain ⟨m3, ⟨_, rfl, q3⟩ | ⟨e, _⟩⟩ := N3
          · obtain ⟨m2, ⟨_, rfl, q2⟩ | ⟨e, _⟩⟩ := N2
            · obtain ⟨m1, ⟨_, _, q1⟩ | ⟨e, _⟩⟩ := N1
              · have g1 := numQ_len q1
                have g2 := numQ_len q2
                have g3 := numQ_len q3
                have g4 := numQ_len q4
                simp only [List.length_drop] at g1 g2 g3 g4
                have hd := drop_at X j4 (by omega)
                refine ⟨X.getD j4 0, ?_, by omega, by omega, m3, by omega, ?_⟩
                · rw [hd]
                  simp
                · unfold entP
                  rw [q1]
                  simp only
                  rw [q2]
                  simp only
                  rw [q3]
                  simp only
                  rw [q4]
                  simp only
                  rw [hd]
                  simp only
                  by_cases hp : prev.length < n
                  · rw [if_pos (by right; right; omega), if_pos hp]
                  · rw [if_neg (by rw [List.length_drop]; omega), if_neg hp]
                    simp only [Int.toNat_natCast, List.drop_drop]
              · exact absurd rfl e
            · exact absurd rfl e
          · exact absurd rfl e
        · exact absurd rfl e
      · exact absurd rfl e
    · exact absurd rfl e
  · exact absurd rfl e

/-- What is told, round by round. -/
theorem toldP_stop {f : Nat} {key : List Int} {out : List En} {l : List Int} (hf : 0 < f) (h : l = [] ∨ 64 < out.length) : toldP f key out l = out := by
  cases f with
  | zero => omega
  | succ f => unfold toldP; rw [if_pos h]
theorem toldP_bad {f : Nat} {key : List Int} {out : List En} {l : List Int} (hf : 0 < f) (h : ¬ (l = [] ∨ 64 < out.length)) (he : entP key l = none) : toldP f key out l = [] := by
  cases f with
  | zero => omega
  | succ f => unfold toldP; rw [if_neg h, he]
theorem toldP_step {f : Nat} {key key' : List Int} {out : List En} {l r : List Int} {x : En} (h : ¬ (l = [] ∨ 64 < out.length)) (he : entP key l = some (x, key', r)) : toldP (f + 1) key out l = toldP f key' (out ++ [x]) r := by
  rw [toldP, if_neg h, he]
end Go.Proofs.YtekoniaobmapdaaGreat
