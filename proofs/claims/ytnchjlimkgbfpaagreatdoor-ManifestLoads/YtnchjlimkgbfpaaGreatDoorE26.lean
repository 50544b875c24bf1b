/- The texts GRead, OStk, OStm, in this order. -/
import Derived.Test.YtnchjlimkgbfpaaGreatDoorE09
import Derived.Test.YtnchjlimkgbfpaaGreatDoorE11
import Derived.Test.YtnchjlimkgbfpaaGreatDoorE23
import Derived.Deep.RegionHeld3
import Derived.Test.YtnchjlimkgbfpaaGreatDoorVRefGet

namespace Go.Proofs.YtnchjlimkgbfpaaGreatDoor
open Go.RowKit SumPlain
set_option linter.unusedVariables false
theorem wrap64_id (n : Int) (h0 : 0 ≤ n) (h1 : n ≤ 9223372036854775807) : IntKind.i64.wrap n = n := by
  simp [IntKind.wrap, IntKind.bits, IntKind.signed]; omega
structure RQ (w0 w : World) (N : Nat) (X : List Int) (a : Option Addr) (c k : Nat) (y : Int) : Prop where
  up : Below w0.heap.size w0 w
  n : w0.heap.size ≤ N
  blk : w.heap[N]? = some (.cells #[.slice a X.length c, .int .i64 (k : Int), .int .i64 y] 185)
  octs : Octs w0 (.slice a X.length c) X
  le : k ≤ X.length
  xl : X.length ≤ 140737488355328
theorem RQ.upw {w0 w w' : World} {N : Nat} {X : List Int} {a : Option Addr} {c k : Nat} {y : Int} (h : RQ w0 w N X a c k y) (hb : Below w.heap.size w w') : RQ w0 w' N X a c k y :=
  ⟨up_trans h.up hb, h.n, blk_up h.blk hb, h.octs, h.le, h.xl⟩
theorem RQ.far {w0 w w' : World} {N : Nat} {X : List Int} {a : Option Addr} {c k : Nat} {y : Int} {r : Option Nat} (h : RQ w0 w N X a c k y) (hg : w.grownBy w' r) (hr : ∀ g, r = some g → w0.heap.size ≤ g ∧ g ≠ N) : RQ w0 w' N X a c k y :=
  ⟨h.up.grown hg h.up.size (fun g e => (hr g e).1), h.n, blk_grown h.blk hg (fun e => (hr N e.symm).2 rfl), h.octs, h.le, h.xl⟩
theorem RQ.setAt {w0 w : World} {N : Nat} {X : List Int} {a : Option Addr} {c k : Nat} {y : Int} (h : RQ w0 w N X a c k y) (j : Nat) (hj : j ≤ X.length) : RQ w0 (w.setCell ⟨N, 1, none⟩ (.int .i64 (j : Int))) N X a c j y :=
  ⟨h.up.grown (grown_set _ _ _) h.up.size (fun g e => by have := h.n; simp at e; omega), h.n, blk_set h.blk 1 _, h.octs, hj, h.xl⟩
theorem RQ.setErr {w0 w : World} {N : Nat} {X : List Int} {a : Option Addr} {c k : Nat} {y : Int} (h : RQ w0 w N X a c k y) (z : Int) : RQ w0 (w.setCell ⟨N, 2, none⟩ (.int .i64 z)) N X a c k z :=
  ⟨h.up.grown (grown_set _ _ _) h.up.size (fun g e => by have := h.n; simp at e; omega), h.n, blk_set h.blk 2 _, h.octs, h.le, h.xl⟩
theorem numQ_err {most code : Int} (hc : code ≠ 0) {l : List Int} {y : Int} (h : numQ most code l = .error y) : y ≠ 0 := by
  unfold numQ at h
  split at h
  · split at h
    · injection h with h; subst h; exact hc
    · cases h
  · rename_i h0
    injection h with h
    subst h
    exact h0
theorem refNum_err (N : Nat) (X : List Int) (a : Option Addr) (c k : Nat) (y : Int) (most code : Int) (w0 w : World) (h : RQ w0 w N X a c k y) (hy : y ≠ 0) :
    Calls Tryz.prog 99 #[.pointer (some ⟨N, 0, none⟩), .int .u64 most, .int .i64 code] w fun e w' => e = .returned (.int .i64 0) ∧ w' = w := by
  have p2 : w.cell? ⟨N, 2, none⟩ = some (.int .i64 y) := blk_cell h.blk 2 _ rfl
  have y1 : (y == 0) = false := by simp [hy]
  have y2 : (y != 0) = true := by simp [hy]
  clear h
  go_enter Tryz.func99, Tryz.ntmps99
  go_wp2
  go_ret
  exact ⟨rfl, rfl⟩
theorem octs_drop {w : World} {b off c n : Nat} {l : List Int} (h : Octs w (.slice (some ⟨b, off, none⟩) l.length c) l) (hn : n ≤ l.length) (hc : l.length ≤ c) : Octs w (.slice (some ⟨b, off + n, none⟩) (l.length - n) (c - n)) (l.drop n) := h.back rfl n hn hc
set_option maxHeartbeats 2000000 in
theorem refNum_get (N : Nat) (X : List Int) (a : Option Addr) (c k : Nat) (most code y : Int) (w0 w : World) (h : RQ w0 w N X a c k 0) (hg : getRet (X.drop k) = .tuple #[.int .u64 0, .int .i64 0, .int .i64 y]) (hy : y ≠ 0) :
    Calls Tryz.prog 99 #[.pointer (some ⟨N, 0, none⟩), .int .u64 most, .int .i64 code] w fun e w' => e = .returned (.int .i64 0) ∧ Hid (RQ w0 w' N X a c k y) ∧ Hid (w.grownBy w' (some N)) := by
  have p0 : w.cell? ⟨N, 0, none⟩ = some (.slice a X.length c) := blk_cell h.blk 0 _ rfl
  have p1 : w.cell? ⟨N, 1, none⟩ = some (.int .i64 (k : Int)) := blk_cell h.blk 1 _ rfl
  have p2 : w.cell? ⟨N, 2, none⟩ = some (.int .i64 0) := blk_cell h.blk 2 _ rfl
  have z2 := blk_frozen h.blk 2
  have y1 : (y == 0) = false := by simp [hy]
  have y2 : (y != 0) = true := by simp [hy]
  have HS : Hid (∀ d, RQ w0 ((w.drewN d).setCell ⟨N, 2, none⟩ (.int .i64 y)) N X a c k y) := fun d => (h.upw (up_drewN w d)).setErr y
  have HG : Hid (∀ d, w.grownBy ((w.drewN d).setCell ⟨N, 2, none⟩ (.int .i64 y)) (some N)) := fun d => grown_trans (grown_up (up_drewN w d) _) (grown_set _ _ _)
  have hx : Octs w (.slice a X.length c) X := h.octs.up h.up
  have hk := h.le
  have hk' : (k : Int) ≤ (X.length : Int) := by omega
  have hk0 : (0 : Int) ≤ (k : Int) := by omega
  clear h
  rcases hx.form with ⟨rfl, rfl, rfl⟩ | ⟨x, rfl, rfl⟩ | ⟨b, off, rfl, hne, hc, hm⟩
  · simp at hk
    subst hk
    have HGQ : Hid (∀ m, Calls Tryz.prog 98 #[.slice none 0 0] (w.drewN m) fun e w' => e = .returned (.tuple #[.int .u64 0, .int .i64 0, .int .i64 y]) ∧ ∃ d, w' = (w.drewN m).drewN d) := fun m => by
      have := refGet_any (List.drop 0 ([] : List Int)) (.slice none 0 0) (w.drewN m) ((hx : Octs w (.slice none 0 0) (List.drop 0 ([] : List Int))).up (up_drewN w m))
      rw [hg] at this
      exact this
    clear hg hx
    go_enter Tryz.func99, Tryz.ntmps99
    go_wp2_with fail
    go_quiet ((go_at_call 98; exact Calls.quiet_of (HGQ.out _)))
    go_wp2
    go_ret
    exact ⟨rfl, HS.out _, HG.out _⟩
  · simp at hk
    subst hk
    by_cases hc0 : c = 0
    · subst hc0
      have HGQ : Hid (∀ m, Calls Tryz.prog 98 #[.slice (some x) 0 0] (w.drewN m) fun e w' => e = .returned (.tuple #[.int .u64 0, .int .i64 0, .int .i64 y]) ∧ ∃ d, w' = (w.drewN m).drewN d) := fun m => by
        have := refGet_any (List.drop 0 ([] : List Int)) (.slice (some x) 0 0) (w.drewN m) ((hx : Octs w (.slice (some x) 0 0) (List.drop 0 ([] : List Int))).up (up_drewN w m))
        rw [hg] at this
        exact this
      clear hg hx
      go_enter Tryz.func99, Tryz.ntmps99
      go_wp2_with fail
      go_quiet ((go_at_call 98; exact Calls.quiet_of (HGQ.out _)))
      go_wp2
      go_ret
      exact ⟨rfl, HS.out _, HG.out _⟩
    · skip
      have HGQ : Hid (∀ m, Calls Tryz.prog 98 #[.slice (some x) 0 c] (w.drewN m) fun e w' => e = .returned (.tuple #[.int .u64 0, .int .i64 0, .int .i64 y]) ∧ ∃ d, w' = (w.drewN m).drewN d) := fun m => by
        have := refGet_any (List.drop 0 ([] : List Int)) (.slice (some x) 0 c) (w.drewN m) ((hx : Octs w (.slice (some x) 0 c) (List.drop 0 ([] : List Int))).up (up_drewN w m))
        rw [hg] at this
        exact this
      clear hg hx
      go_enter Tryz.func99, Tryz.ntmps99
      go_wp2_with fail
      go_quiet ((go_at_call 98; exact Calls.quiet_of (HGQ.out _)))
      go_wp2
      go_ret
      exact ⟨rfl, HS.out _, HG.out _⟩
  · unfold maxLen at hm
    by_cases hcn : c = k
    · obtain rfl : k = X.length := by omega
      obtain rfl : c = X.length := hcn
      have HGQ : Hid (∀ m, Calls Tryz.prog 98 #[.slice (some ⟨b, off, none⟩) 0 0] (w.drewN m) fun e w' => e = .returned (.tuple #[.int .u64 0, .int .i64 0, .int .i64 y]) ∧ ∃ d, w' = (w.drewN m).drewN d) := fun m => by
        have := refGet_any (X.drop X.length) (.slice (some ⟨b, off, none⟩) 0 0) (w.drewN m) ((by rw [List.drop_length]; exact ⟨by simp, .inl ⟨rfl, _, _, rfl, fun e => by cases e⟩⟩ : Octs w (.slice (some ⟨b, off, none⟩) 0 0) (X.drop X.length)).up (up_drewN w m))
        rw [hg] at this
        exact this
      clear hg hx
      go_enter Tryz.func99, Tryz.ntmps99
      go_wp2_with fail
      go_quiet ((go_at_call 98; exact Calls.quiet_of (HGQ.out _)))
      go_wp2
      go_ret
      exact ⟨rfl, HS.out _, HG.out _⟩
    · skip
      have HGQ : Hid (∀ m, Calls Tryz.prog 98 #[.slice (some ⟨b, off + k, none⟩) (X.length - k) (c - k)] (w.drewN m) fun e w' => e = .returned (.tuple #[.int .u64 0, .int .i64 0, .int .i64 y]) ∧ ∃ d, w' = (w.drewN m).drewN d) := fun m => by
        have := refGet_any (X.drop k) (.slice (some ⟨b, off + k, none⟩) (X.length - k) (c - k)) (w.drewN m) ((octs_drop hx hk hc : Octs w (.slice (some ⟨b, off + k, none⟩) (X.length - k) (c - k)) (X.drop k)).up (up_drewN w m))
        rw [hg] at this
        exact this
      clear hg hx
      go_enter Tryz.func99, Tryz.ntmps99
      go_wp2_with fail
      go_quiet ((go_at_call 98; exact Calls.quiet_of (HGQ.out _)))
      go_wp2
      go_ret
      exact ⟨rfl, HS.out _, HG.out _⟩
set_option maxHeartbeats 2000000 in
theorem refNum_big (N : Nat) (X : List Int) (a : Option Addr) (c k : Nat) (most code n : Int) (j : Nat) (w0 w : World) (h : RQ w0 w N X a c k 0) (hg : getRet (X.drop k) = .tuple #[.int .u64 n, .int .i64 (j : Int), .int .i64 0]) (hj : 1 ≤ j ∧ j ≤ (X.drop k).length) (hn : most < n) :
    Calls Tryz.prog 99 #[.pointer (some ⟨N, 0, none⟩), .int .u64 most, .int .i64 code] w fun e w' => e = .returned (.int .i64 0) ∧ Hid (RQ w0 w' N X a c k code) ∧ Hid (w.grownBy w' (some N)) := by
  have p0 : w.cell? ⟨N, 0, none⟩ = some (.slice a X.length c) := blk_cell h.blk 0 _ rfl
  have p1 : w.cell? ⟨N, 1, none⟩ = some (.int .i64 (k : Int)) := blk_cell h.blk 1 _ rfl
  have p2 : w.cell? ⟨N, 2, none⟩ = some (.int .i64 0) := blk_cell h.blk 2 _ rfl
  have z2 := blk_frozen h.blk 2
  have HS : Hid (∀ d, RQ w0 ((w.drewN d).setCell ⟨N, 2, none⟩ (.int .i64 code)) N X a c k code) := fun d => (h.upw (up_drewN w d)).setErr code
  have HG : Hid (∀ d, w.grownBy ((w.drewN d).setCell ⟨N, 2, none⟩ (.int .i64 code)) (some N)) := fun d => grown_trans (grown_up (up_drewN w d) _) (grown_set _ _ _)
  have hx : Octs w (.slice a X.length c) X := h.octs.up h.up
  have hk := h.le
  have hk' : (k : Int) ≤ (X.length : Int) := by omega
  have hk0 : (0 : Int) ≤ (k : Int) := by omega
  rw [List.length_drop] at hj
  clear h
  rcases hx.form with ⟨rfl, rfl, rfl⟩ | ⟨x, rfl, rfl⟩ | ⟨b, off, rfl, hne, hc, hm⟩
  · simp at hj; omega
  · simp at hj; omega
  · unfold maxLen at hm
    have hcn : ¬ c = k := by omega
    have HGQ : Hid (∀ m, Calls Tryz.prog 98 #[.slice (some ⟨b, off + k, none⟩) (X.length - k) (c - k)] (w.drewN m) fun e w' => e = .returned (.tuple #[.int .u64 n, .int .i64 (j : Int), .int .i64 0]) ∧ ∃ d, w' = (w.drewN m).drewN d) := fun m => by
      have := refGet_any (X.drop k) (.slice (some ⟨b, off + k, none⟩) (X.length - k) (c - k)) (w.drewN m) ((octs_drop hx hk hc).up (up_drewN w m))
      rw [hg] at this
      exact this
    clear hg hx
    go_enter Tryz.func99, Tryz.ntmps99
    go_wp2_with fail
    go_quiet ((go_at_call 98; exact Calls.quiet_of (HGQ.out _)))
    go_wp2
    go_ret
    exact ⟨rfl, HS.out _, HG.out _⟩
set_option maxHeartbeats 2000000 in
theorem refNum_good (N : Nat) (X : List Int) (a : Option Addr) (c k : Nat) (most code n : Int) (j : Nat) (w0 w : World) (h : RQ w0 w N X a c k 0) (hg : getRet (X.drop k) = .tuple #[.int .u64 n, .int .i64 (j : Int), .int .i64 0]) (hj : 1 ≤ j ∧ j ≤ (X.drop k).length) (hn : ¬ most < n) (hn0 : 0 ≤ n) (hm40 : most ≤ 1099511627776) :
    Calls Tryz.prog 99 #[.pointer (some ⟨N, 0, none⟩), .int .u64 most, .int .i64 code] w fun e w' => e = .returned (.int .i64 n) ∧ Hid (RQ w0 w' N X a c (k + j) 0) ∧ Hid (w.grownBy w' (some N)) := by
  have p0 : w.cell? ⟨N, 0, none⟩ = some (.slice a X.length c) := blk_cell h.blk 0 _ rfl
  have p1 : w.cell? ⟨N, 1, none⟩ = some (.int .i64 (k : Int)) := blk_cell h.blk 1 _ rfl
  have p2 : w.cell? ⟨N, 2, none⟩ = some (.int .i64 0) := blk_cell h.blk 2 _ rfl
  have z1 := blk_frozen h.blk 1
  rw [List.length_drop] at hj
  have hk := h.le
  have hxl := h.xl
  have HS : Hid (∀ d, RQ w0 ((w.drewN d).setCell ⟨N, 1, none⟩ (.int .i64 ((k : Int) + (j : Int)))) N X a c (k + j) 0) := fun d => by
    have := (h.upw (up_drewN w d)).setAt (k + j) (by omega)
    rw [Int.natCast_add] at this
    exact this
  have HG : Hid (∀ d, w.grownBy ((w.drewN d).setCell ⟨N, 1, none⟩ (.int .i64 ((k : Int) + (j : Int)))) (some N)) := fun d => grown_trans (grown_up (up_drewN w d) _) (grown_set _ _ _)
  have hx : Octs w (.slice a X.length c) X := h.octs.up h.up
  have hk' : (k : Int) ≤ (X.length : Int) := by omega
  have hk0 : (0 : Int) ≤ (k : Int) := by omega
  have hkj : (k : Int) + (j : Int) ≤ 140737488355328 := by omega
  have gw : IntKind.i64.wrap n = n := by simp [IntKind.wrap, IntKind.bits, IntKind.signed]; omega
  clear h
  rcases hx.form with ⟨rfl, rfl, rfl⟩ | ⟨x, rfl, rfl⟩ | ⟨b, off, rfl, hne, hc, hm⟩
  · simp at hj; omega
  · simp at hj; omega
  · unfold maxLen at hm
    have hcn : ¬ c = k := by omega
    have HGQ : Hid (∀ m, Calls Tryz.prog 98 #[.slice (some ⟨b, off + k, none⟩) (X.length - k) (c - k)] (w.drewN m) fun e w' => e = .returned (.tuple #[.int .u64 n, .int .i64 (j : Int), .int .i64 0]) ∧ ∃ d, w' = (w.drewN m).drewN d) := fun m => by
      have := refGet_any (X.drop k) (.slice (some ⟨b, off + k, none⟩) (X.length - k) (c - k)) (w.drewN m) ((octs_drop hx hk hc).up (up_drewN w m))
      rw [hg] at this
      exact this
    clear hg hx
    go_enter Tryz.func99, Tryz.ntmps99
    go_wp2_with fail
    go_quiet ((go_at_call 98; exact Calls.quiet_of (HGQ.out _)))
    go_wp2
    go_ret
    exact ⟨rfl, HS.out _, HG.out _⟩
def NumEnd (w0 w : World) (N : Nat) (X : List Int) (a : Option Addr) (c k : Nat) (most code : Int) (e : Ending) (w' : World) : Prop :=
  (∃ n j, numQ most code (X.drop k) = .ok (n, X.drop j) ∧ (0 ≤ n ∧ n ≤ most) ∧ e = .returned (.int .i64 n) ∧ RQ w0 w' N X a c j 0 ∧ w.grownBy w' (some N)) ∨
  (∃ y, numQ most code (X.drop k) = .error y ∧ e = .returned (.int .i64 0) ∧ RQ w0 w' N X a c k y ∧ w.grownBy w' (some N))
theorem refNum_any (N : Nat) (X : List Int) (a : Option Addr) (c k : Nat) (most code : Int) (w0 w : World) (h : RQ w0 w N X a c k 0) (hm : most ≤ 1099511627776) :
    Calls Tryz.prog 99 #[.pointer (some ⟨N, 0, none⟩), .int .u64 most, .int .i64 code] w fun e w' => NumEnd w0 w N X a c k most code e w' := by
  have hx : ∀ y ∈ X.drop k, 0 ≤ y ∧ y ≤ 255 := fun y hy => h.octs.1 y (List.mem_of_mem_drop hy)
  rcases get_says (X.drop k) hx with hg | hg | ⟨n, j, hg, n0, n1, j1, jl, ho, j9⟩
  · refine (refNum_get N X a c k most code 8 w0 w h hg (by decide)).mono ?_
    rintro e w' ⟨rfl, h1, h2⟩
    refine .inr ⟨8, ?_, rfl, h1.out, h2.out⟩
    unfold numQ
    rw [getRet_inj hg]
    rfl
  · refine (refNum_get N X a c k most code 4 w0 w h hg (by decide)).mono ?_
    rintro e w' ⟨rfl, h1, h2⟩
    refine .inr ⟨4, ?_, rfl, h1.out, h2.out⟩
    unfold numQ
    rw [getRet_inj hg]
    rfl
  · by_cases hb : most < n
    · refine (refNum_big N X a c k most code n j w0 w h hg ⟨j1, jl⟩ hb).mono ?_
      rintro e w' ⟨rfl, h1, h2⟩
      refine .inr ⟨code, ?_, rfl, h1.out, h2.out⟩
      unfold numQ
      rw [getRet_inj hg]
      simp only [if_true]
      rw [if_pos hb]
    · refine (refNum_good N X a c k most code n j w0 w h hg ⟨j1, jl⟩ hb n0 hm).mono ?_
      rintro e w' ⟨rfl, h1, h2⟩
      refine .inl ⟨n, k + j, ?_, ⟨n0, by omega⟩, rfl, h1.out, h2.out⟩
      unfold numQ
      rw [getRet_inj hg]
      simp only [if_true]
      rw [if_neg hb, Int.toNat_natCast, List.drop_drop]
end Go.Proofs.YtnchjlimkgbfpaaGreatDoor

namespace Go.Proofs.YtnchjlimkgbfpaaGreatDoor
open Go.RowKit
set_option linter.unusedVariables false
set_option linter.unusedSimpArgs false
set_option maxRecDepth 20000
def numR (most code : Int) (s : List Int × Int) : Int × (List Int × Int) :=
  if s.2 = 0 then (match numQ most code s.1 with
    | .ok (n, r) => (n, (r, 0))
    | .error y => (0, (s.1, y))) else (0, s)
def txtR (s : List Int × Int) : ByteArray × (List Int × Int) :=
  if s.2 = 0 then (match numQ 96 1 s.1 with
    | .error y => (⟨#[]⟩, (s.1, y))
    | .ok (n, r) => if (r.length : Int) < n then (⟨#[]⟩, (r, 8)) else (strOfNums (r.take n.toNat), (r.drop n.toNat, 0))) else (⟨#[]⟩, s)
def idsR : Nat → List Int → List Int × Int → List Int × (List Int × Int)
  | 0, d, s => (d, s)
  | k + 1, d, s => if s.2 = 0 then idsR k (d ++ [(numR 1099511627776 1 s).1]) (numR 1099511627776 1 s).2 else (d, s)
def metR (s : List Int × Int) : Me × (List Int × Int) :=
  (⟨(numR 1099511627776 1 s).1, (numR 1099511627776 1 (numR 1099511627776 1 s).2).1, (numR 1099511627776 1 (numR 1099511627776 1 (numR 1099511627776 1 s).2).2).1,
    (txtR (numR 1099511627776 1 (numR 1099511627776 1 (numR 1099511627776 1 s).2).2).2).1, (txtR (txtR (numR 1099511627776 1 (numR 1099511627776 1 (numR 1099511627776 1 s).2).2).2).2).1⟩,
    (txtR (txtR (numR 1099511627776 1 (numR 1099511627776 1 (numR 1099511627776 1 s).2).2).2).2).2)
def metsR : Nat → List Me → List Int × Int → List Me × (List Int × Int)
  | 0, d, s => (d, s)
  | k + 1, d, s => if s.2 = 0 then metsR k (d ++ [(metR s).1]) (metR s).2 else (d, s)
theorem numR_stay {most code : Int} {s : List Int × Int} (h : s.2 ≠ 0) : numR most code s = (0, s) := by unfold numR; rw [if_neg h]
theorem txtR_stay {s : List Int × Int} (h : s.2 ≠ 0) : txtR s = (⟨#[]⟩, s) := by unfold txtR; rw [if_neg h]
theorem idsR_stay : ∀ (k : Nat) (d : List Int) (s : List Int × Int), s.2 ≠ 0 → idsR k d s = (d, s)
  | 0, d, s, _ => rfl
  | k + 1, d, s, h => by rw [idsR, if_neg h]
theorem metsR_stay : ∀ (k : Nat) (d : List Me) (s : List Int × Int), s.2 ≠ 0 → metsR k d s = (d, s)
  | 0, d, s, _ => rfl
  | k + 1, d, s, h => by rw [metsR, if_neg h]
theorem numR_ok {most code : Int} {l : List Int} {n : Int} {r : List Int} (h : numQ most code l = .ok (n, r)) : numR most code (l, 0) = (n, (r, 0)) := by
  unfold numR
  simp only [if_true, h]
theorem numR_bad {most code : Int} (hc : code ≠ 0) {l : List Int} {y : Int} (h : numQ most code l = .error y) : numR most code (l, 0) = (0, (l, y)) ∧ y ≠ 0 := by
  unfold numR
  simp only [if_true, h]
  exact ⟨trivial, numQ_err hc h⟩
theorem numQ_less {l : List Int} {most c : Int} (hm : most ≤ 1099511627776) : numQ most c l = match numQ 1099511627776 1 l with
    | .ok (n, r) => if most < n then .error c else .ok (n, r)
    | .error y => if (getOf l).2.2 = 0 then .error c else .error y := by
  unfold numQ
  by_cases h : (getOf l).2.2 = 0
  · rw [if_pos h, if_pos h]
    by_cases h2 : 1099511627776 < (getOf l).1
    · rw [if_pos h2, if_pos (by omega)]
      simp only [h, if_true]
    · rw [if_neg h2]
  · rw [if_neg h, if_neg h]
    simp only [h, if_false]
theorem cntR_ok {l : List Int} {n : Int} {r : List Int} (h : cntQ l = .ok (n, r)) : numR 256 3 (l, 0) = (n, (r, 0)) := by
  refine numR_ok ?_
  rw [numQ_less (by decide)]
  unfold cntQ at h
  cases e : numQ 1099511627776 1 l with
  | error y => rw [e] at h; cases h
  | ok v =>
    obtain ⟨m, q⟩ := v
    rw [e] at h
    simp only at h ⊢
    split at h
    · cases h
    · rename_i k
      rw [if_neg k]
      exact h
theorem cntR_bad {l : List Int} {y : Int} (h : cntQ l = .error y) : (numR 256 3 (l, 0)).2.2 ≠ 0 := by
  have key : ∃ z, numQ 256 3 l = .error z := by
    rw [numQ_less (by decide)]
    unfold cntQ at h
    cases e : numQ 1099511627776 1 l with
    | error y =>
      simp only
      split
      · exact ⟨_, rfl⟩
      · exact ⟨_, rfl⟩
    | ok v =>
      obtain ⟨m, q⟩ := v
      rw [e] at h
      simp only at h ⊢
      split at h
      · rename_i k
        rw [if_pos k]
        exact ⟨_, rfl⟩
      · cases h
  obtain ⟨z, hz⟩ := key
  obtain ⟨e, hz0⟩ := numR_bad (by decide) hz
  rw [e]
  exact hz0
theorem txtR_ok {l : List Int} {s : ByteArray} {r : List Int} (h : txtP l = .ok (s, r)) : txtR (l, 0) = (s, (r, 0)) := by
  unfold txtR
  simp only [if_true]
  rw [numQ_less (by decide)]
  unfold txtP at h
  cases e : numQ 1099511627776 1 l with
  | error y => rw [e] at h; cases h
  | ok v =>
    obtain ⟨m, q⟩ := v
    rw [e] at h
    simp only at h ⊢
    split at h
    · cases h
    · rename_i k
      rw [if_neg k]
      simp only
      split at h
      · cases h
      · rename_i k2
        rw [if_neg k2]
        simp only [Except.ok.injEq, Prod.mk.injEq] at h
        rw [h.1, h.2]
theorem txtR_bad {l : List Int} {y : Int} (h : txtP l = .error y) : (txtR (l, 0)).2.2 ≠ 0 := by
  unfold txtR
  simp only [if_true]
  cases e96 : numQ 96 1 l with
  | error z => exact numQ_err (by decide) e96
  | ok v =>
    obtain ⟨m, q⟩ := v
    simp only
    rw [numQ_less (by decide)] at e96
    unfold txtP at h
    cases e : numQ 1099511627776 1 l with
    | error z =>
      rw [e] at e96
      simp only at e96
      split at e96 <;> cases e96
    | ok v =>
      obtain ⟨m', q'⟩ := v
      rw [e] at h e96
      simp only at h e96
      split at e96
      · cases e96
      · rename_i k
        rw [if_neg k] at h
        simp only [Except.ok.injEq, Prod.mk.injEq] at e96
        obtain ⟨rfl, rfl⟩ := e96
        split at h
        · rename_i k2
          rw [if_pos k2]
          show (8 : Int) ≠ 0
          decide
        · cases h
theorem idsR_says : ∀ (k : Nat) (l d : List Int), (∀ is r, idsP k l = .ok (is, r) → idsR k d (l, 0) = (d ++ is, (r, 0))) ∧ (∀ y, idsP k l = .error y → (idsR k d (l, 0)).2.2 ≠ 0)
  | 0, l, d => by
    refine ⟨fun is r h => ?_, fun y h => ?_⟩
    · simp only [idsP, Except.ok.injEq, Prod.mk.injEq] at h
      obtain ⟨rfl, rfl⟩ := h
      simp [idsR]
    · simp [idsP] at h
  | k + 1, l, d => by
    rw [idsR, if_pos rfl]
    cases e : numQ 1099511627776 1 l with
    | error z =>
      obtain ⟨e1, e2⟩ := numR_bad (by decide) e
      rw [e1]
      refine ⟨fun is r h => ?_, fun y h => ?_⟩
      · rw [idsP, e] at h; cases h
      · simp only
        rw [idsR_stay _ _ _ e2]
        exact e2
    | ok v =>
      obtain ⟨n, q⟩ := v
      rw [numR_ok e]
      simp only
      obtain ⟨g1, g2⟩ := idsR_says k q (d ++ [n])
      refine ⟨fun is r h => ?_, fun y h => ?_⟩
      · rw [idsP, e] at h
        simp only at h
        cases e2 : idsP k q with
        | error z => rw [e2] at h; cases h
        | ok u =>
          obtain ⟨is', r'⟩ := u
          rw [e2] at h
          simp only [Except.ok.injEq, Prod.mk.injEq] at h
          obtain ⟨rfl, rfl⟩ := h
          rw [g1 _ _ e2]
          simp
      · rw [idsP, e] at h
        simp only at h
        cases e2 : idsP k q with
        | error z => exact g2 z e2
        | ok u => rw [e2] at h; cases h
theorem metR_says (l : List Int) : (∀ m r, metP l = .ok (m, r) → metR (l, 0) = (m, (r, 0))) ∧ (∀ y, metP l = .error y → (metR (l, 0)).2.2 ≠ 0) := by
  unfold metR metP
  cases e1 : numQ 1099511627776 1 l with
  | error z =>
    obtain ⟨q, hz⟩ := numR_bad (by decide) e1
    rw [q]
    refine ⟨fun m r h => (by cases h), fun y h => ?_⟩
    simp only [numR_stay (s := (l, z)) hz, txtR_stay (s := (l, z)) hz]
    exact hz
  | ok v1 =>
    obtain ⟨n1, r1⟩ := v1
    rw [numR_ok e1]
    simp only
    cases e2 : numQ 1099511627776 1 r1 with
    | error z =>
      obtain ⟨q, hz⟩ := numR_bad (by decide) e2
      rw [q]
      refine ⟨fun m r h => (by cases h), fun y h => ?_⟩
      simp only [numR_stay (s := (r1, z)) hz, txtR_stay (s := (r1, z)) hz]
      exact hz
    | ok v2 =>
      obtain ⟨n2, r2⟩ := v2
      rw [numR_ok e2]
      simp only
      cases e3 : numQ 1099511627776 1 r2 with
      | error z =>
        obtain ⟨q, hz⟩ := numR_bad (by decide) e3
        rw [q]
        refine ⟨fun m r h => (by cases h), fun y h => ?_⟩
        simp only [txtR_stay (s := (r2, z)) hz]
        exact hz
      | ok v3 =>
        obtain ⟨n3, r3⟩ := v3
        rw [numR_ok e3]
        simp only
        cases e4 : txtP r3 with
        | error z =>
          have hz := txtR_bad e4
          refine ⟨fun m r h => (by cases h), fun y h => ?_⟩
          rw [txtR_stay hz]
          exact hz
        | ok v4 =>
          obtain ⟨s4, r4⟩ := v4
          rw [txtR_ok e4]
          simp only
          cases e5 : txtP r4 with
          | error z =>
            have hz := txtR_bad e5
            exact ⟨fun m r h => (by cases h), fun y h => hz⟩
          | ok v5 =>
            obtain ⟨s5, r5⟩ := v5
            rw [txtR_ok e5]
            refine ⟨fun m r h => ?_, fun y h => (by cases h)⟩
            simp only [Except.ok.injEq, Prod.mk.injEq] at h
            obtain ⟨rfl, rfl⟩ := h
            rfl
theorem metsR_says : ∀ (k : Nat) (l : List Int) (d : List Me), (∀ ms r, metsP k l = .ok (ms, r) → metsR k d (l, 0) = (d ++ ms, (r, 0))) ∧ (∀ y, metsP k l = .error y → (metsR k d (l, 0)).2.2 ≠ 0)
  | 0, l, d => by
    refine ⟨fun is r h => ?_, fun y h => ?_⟩
    · simp only [metsP, Except.ok.injEq, Prod.mk.injEq] at h
      obtain ⟨rfl, rfl⟩ := h
      simp [metsR]
    · simp [metsP] at h
  | k + 1, l, d => by
    rw [metsR, if_pos rfl]
    cases e : metP l with
    | error z =>
      have e2 := (metR_says l).2 z e
      refine ⟨fun is r h => ?_, fun y h => ?_⟩
      · rw [metsP, e] at h; cases h
      · rw [metsR_stay _ _ _ e2]
        exact e2
    | ok v =>
      obtain ⟨n, q⟩ := v
      rw [(metR_says l).1 n q e]
      simp only
      obtain ⟨g1, g2⟩ := metsR_says k q (d ++ [n])
      refine ⟨fun is r h => ?_, fun y h => ?_⟩
      · rw [metsP, e] at h
        simp only at h
        cases e2 : metsP k q with
        | error z => rw [e2] at h; cases h
        | ok u =>
          obtain ⟨is', r'⟩ := u
          rw [e2] at h
          simp only [Except.ok.injEq, Prod.mk.injEq] at h
          obtain ⟨rfl, rfl⟩ := h
          rw [g1 _ _ e2]
          simp
      · rw [metsP, e] at h
        simp only at h
        cases e2 : metsP k q with
        | error z => exact g2 z e2
        | ok u => rw [e2] at h; cases h
end Go.Proofs.YtnchjlimkgbfpaaGreatDoor

namespace Go.Proofs.YtnchjlimkgbfpaaGreatDoor
open Go.RowKit
set_option linter.unusedVariables false
set_option linter.unusedSimpArgs false
set_option maxRecDepth 20000
def decR (l : List Int) : (Int × Int × List Int × List Me) × (List Int × Int) :=
  match numR 1099511627776 1 (l, 0) with
  | (s, s1) => match numR 1099511627776 1 s1 with
    | (x, s2) => match numR 256 3 s2 with
      | (n, s3) => match idsR n.toNat [] s3 with
        | (is, s4) => match numR 256 3 s4 with
          | (k, s5) => match metsR k.toNat [] s5 with
            | (ms, s6) => ((s, x, is, ms), s6)
theorem decR_tail4 {s x : Int} {is : List Int} {s4 : List Int × Int} (h : s4.2 ≠ 0) : (match numR 256 3 s4 with
          | (k, s5) => match metsR k.toNat [] s5 with
            | (ms, s6) => (((s, x, is, ms) : Int × Int × List Int × List Me), s6)).2.2 ≠ 0 := by
  rw [numR_stay h]
  simp only
  rw [metsR_stay _ _ _ h]
  exact h
theorem decR_tail3 {s x n : Int} {s3 : List Int × Int} (h : s3.2 ≠ 0) : (match idsR n.toNat [] s3 with
        | (is, s4) => match numR 256 3 s4 with
          | (k, s5) => match metsR k.toNat [] s5 with
            | (ms, s6) => (((s, x, is, ms) : Int × Int × List Int × List Me), s6)).2.2 ≠ 0 := by
  rw [idsR_stay _ _ _ h]
  exact decR_tail4 h
theorem decR_tail2 {s x : Int} {s2 : List Int × Int} (h : s2.2 ≠ 0) : (match numR 256 3 s2 with
      | (n, s3) => match idsR n.toNat [] s3 with
        | (is, s4) => match numR 256 3 s4 with
          | (k, s5) => match metsR k.toNat [] s5 with
            | (ms, s6) => (((s, x, is, ms) : Int × Int × List Int × List Me), s6)).2.2 ≠ 0 := by
  rw [numR_stay h]
  exact decR_tail3 h
theorem decR_says (l : List Int) : (∀ s x is ms, decE l = .ok (s, x, is, ms) → decR l = ((s, x, is, ms), ([], 0))) ∧ (∀ c, decE l = .error c → (decR l).2.2 ≠ 0 ∨ (decR l).2.1 ≠ []) := by
  unfold decR decE
  cases e1 : numQ 1099511627776 1 l with
  | error z =>
    obtain ⟨q, hz⟩ := numR_bad (by decide) e1
    refine ⟨fun s x is ms h => (by cases h), fun c h => .inl ?_⟩
    rw [q]
    simp only
    rw [numR_stay (s := (l, z)) hz]
    exact decR_tail2 (s := 0) (x := 0) (s2 := (l, z)) hz
  | ok v1 =>
    obtain ⟨n1, r1⟩ := v1
    rw [numR_ok e1]
    simp only
    cases e2 : numQ 1099511627776 1 r1 with
    | error z =>
      obtain ⟨q, hz⟩ := numR_bad (by decide) e2
      refine ⟨fun s x is ms h => (by cases h), fun c h => .inl ?_⟩
      rw [q]
      exact decR_tail2 (s := n1) (x := 0) (s2 := (r1, z)) hz
    | ok v2 =>
      obtain ⟨n2, r2⟩ := v2
      rw [numR_ok e2]
      simp only
      cases e3 : cntQ r2 with
      | error z =>
        have hz := cntR_bad e3
        refine ⟨fun s x is ms h => (by cases h), fun c h => .inl ?_⟩
        exact decR_tail3 (s := n1) (x := n2) (n := (numR 256 3 (r2, 0)).1) (s3 := (numR 256 3 (r2, 0)).2) hz
      | ok v3 =>
        obtain ⟨n3, r3⟩ := v3
        rw [cntR_ok e3]
        simp only
        cases e4 : idsP n3.toNat r3 with
        | error z =>
          have hz := (idsR_says n3.toNat r3 []).2 z e4
          exact ⟨fun s x is ms h => (by cases h), fun c h => .inl (decR_tail4 (s := n1) (x := n2) (is := (idsR n3.toNat [] (r3, 0)).1) (s4 := (idsR n3.toNat [] (r3, 0)).2) hz)⟩
        | ok v4 =>
          obtain ⟨is4, r4⟩ := v4
          rw [(idsR_says n3.toNat r3 []).1 is4 r4 e4]
          simp only
          cases e5 : cntQ r4 with
          | error z =>
            have hz := cntR_bad e5
            refine ⟨fun s x is ms h => (by cases h), fun c h => .inl ?_⟩
            rw [metsR_stay _ _ _ hz]
            exact hz
          | ok v5 =>
            obtain ⟨n5, r5⟩ := v5
            rw [cntR_ok e5]
            simp only
            cases e6 : metsP n5.toNat r5 with
            | error z => exact ⟨fun s x is ms h => (by cases h), fun c h => .inl ((metsR_says n5.toNat r5 []).2 z e6)⟩
            | ok v6 =>
              obtain ⟨ms6, r6⟩ := v6
              rw [(metsR_says n5.toNat r5 []).1 ms6 r6 e6]
              simp only
              by_cases hr : r6 = []
              · subst hr
                refine ⟨fun s x is ms h => ?_, fun c h => ?_⟩
                · simp only [if_true, Except.ok.injEq, Prod.mk.injEq] at h
                  obtain ⟨rfl, rfl, rfl, rfl⟩ := h
                  simp
                · simp at h
              · rw [if_neg hr]
                exact ⟨fun s x is ms h => (by cases h), fun c h => .inr hr⟩
theorem decR_err {l : List Int} (h : (decR l).2.2 ≠ 0 ∨ (decR l).2.1 ≠ []) : ∃ c, decE l = .error c := by
  cases e : decE l with
  | error c => exact ⟨c, rfl⟩
  | ok v =>
    obtain ⟨s, x, is, ms⟩ := v
    rw [(decR_says l).1 s x is ms e] at h
    rcases h with h | h <;> exact absurd rfl h
theorem decR_fine {l : List Int} (h1 : (decR l).2.2 = 0) (h2 : (decR l).2.1 = []) : decE l = .ok ((decR l).1.1, (decR l).1.2.1, (decR l).1.2.2.1, (decR l).1.2.2.2) := by
  cases e : decE l with
  | error c => exact absurd ((decR_says l).2 c e) (by rw [h1, h2]; simp)
  | ok v =>
    obtain ⟨s, x, is, ms⟩ := v
    rw [(decR_says l).1 s x is ms e]
end Go.Proofs.YtnchjlimkgbfpaaGreatDoor
