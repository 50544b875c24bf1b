/- The texts FGet, FMath, FScanM, FCut, LBase, in this order. -/
import Derived.Test.YtnchjlimkgbfpaaGreatDoorJ24
import Derived.Test.YtnchjlimkgbfpaaGreatDoorVAgain
import Derived.Test.YtnchjlimkgbfpaaGreatDoorJ02

namespace Go.Proofs.YtnchjlimkgbfpaaGreatDoor
open Go.RowKit SumPlain
set_option linter.unusedVariables false
set_option maxRecDepth 20000
def fget (b : List Int) : Int × List Int × Int × Int :=
  if (getOf b).2.2 ≠ 0 then (0, [], 0, (getOf b).2.2) else
  if 65536 < (getOf b).1 then (0, [], 0, 5) else
  if (b.length : Int) < (getOf b).2.1 + 1 + (getOf b).1 + 4 then (0, [], 0, 8) else
  if (bareOf (b.take ((getOf b).2.1 + 1 + (getOf b).1 + 4).toNat)).2 ≠ 0 then (0, [], 0, (bareOf (b.take ((getOf b).2.1 + 1 + (getOf b).1 + 4).toNat)).2) else
  ((bareOf (b.take ((getOf b).2.1 + 1 + (getOf b).1 + 4).toNat)).1.getD (getOf b).2.1.toNat 0, (bareOf (b.take ((getOf b).2.1 + 1 + (getOf b).1 + 4).toNat)).1.drop ((getOf b).2.1.toNat + 1), (getOf b).2.1 + 1 + (getOf b).1 + 4, 0)
theorem getRet_inj {l : List Int} {n j e : Int} (h : getRet l = .tuple #[.int .u64 n, .int .i64 j, .int .i64 e]) : getOf l = (n, j, e) := by
  unfold getRet at h
  simp at h
  obtain ⟨h1, h2, h3⟩ := h
  ext <;> simp [h1, h2, h3]
theorem fget_err {b : List Int} {n j e : Int} (h : getOf b = (n, j, e)) (he : e ≠ 0) : fget b = (0, [], 0, e) := by
  unfold fget; rw [h]; simp [he]
theorem fget_long {b : List Int} {n j : Int} (h : getOf b = (n, j, 0)) (hn : 65536 < n) : fget b = (0, [], 0, 5) := by
  unfold fget; rw [h]; simp [hn]
theorem fget_short {b : List Int} {n j : Int} (h : getOf b = (n, j, 0)) (hn : ¬ 65536 < n) (hl : (b.length : Int) < j + 1 + n + 4) : fget b = (0, [], 0, 8) := by
  unfold fget; rw [h]; simp [hn, hl]
theorem fget_bad {b : List Int} {n j : Int} (h : getOf b = (n, j, 0)) (hn : ¬ 65536 < n) (hl : ¬ (b.length : Int) < j + 1 + n + 4) {m : Nat} (hm : (j + 1 + n + 4).toNat = m) {x : List Int} {f : Int} (hb : bareOf (b.take m) = (x, f)) (hf : f ≠ 0) : fget b = (0, [], 0, f) := by
  subst hm
  unfold fget; rw [h]; simp only [hn, hl, hb, if_false]; simp [hf]
theorem fget_good {b : List Int} {n : Int} {j : Nat} (h : getOf b = (n, (j : Int), 0)) (hn : ¬ 65536 < n) (hl : ¬ (b.length : Int) < j + 1 + n + 4) {m : Nat} (hm : ((j : Int) + 1 + n + 4).toNat = m) {x : List Int} (hb : bareOf (b.take m) = (x, 0)) : fget b = (x.getD j 0, x.drop (j + 1), (j : Int) + 1 + n + 4, 0) := by
  subst hm
  unfold fget; rw [h]; simp only [hn, hl, hb, if_false]; simp
theorem own_form {w : World} {base : Nat} {v : Value} {l : List Int} (h : OwnB w base v l) (hl : l ≠ []) :
    ∃ g cap, v = .slice (some ⟨g, 0, none⟩) l.length cap ∧ base ≤ g ∧ g < w.heap.size ∧ l.length ≤ cap ∧ cap ≤ maxLen := by
  have hlt := h.lt
  obtain ⟨_, h2⟩ := h
  rcases h2 with ⟨rfl, h0⟩ | ⟨g, cap, cur, rfl, hg, hh, hn, hm, hs, ht⟩
  · exact absurd (List.length_eq_zero_iff.1 h0) hl
  · exact ⟨g, cap, rfl, hg, (hlt g rfl).2, hn, hm⟩
theorem Octs.cut {w : World} {b off cap n : Nat} {l : List Int} (h : Octs w (.slice (some ⟨b, off, none⟩) n cap) l) (hn : n = l.length) (j : Nat) (hj : j ≤ l.length) : Octs w (.slice (some ⟨b, off, none⟩) j cap) (l.take j) := by
  have := h.front (p := l.take j) (q := l.drop j) (List.take_append_drop j l).symm hn
  rw [List.length_take, Nat.min_eq_left hj] at this
  exact this
theorem Octs.back {w : World} {b off cap n : Nat} {l : List Int} (h : Octs w (.slice (some ⟨b, off, none⟩) n cap) l) (hn : n = l.length) (j : Nat) (hj : j ≤ l.length) (hc : l.length ≤ cap) : Octs w (.slice (some ⟨b, off + j, none⟩) (n - j) (cap - j)) (l.drop j) := by
  obtain ⟨hx, h0⟩ := h
  refine ⟨fun x hx' => hx x (List.mem_of_mem_drop hx'), ?_⟩
  have hlen : (l.drop j).length = n - j := by rw [List.length_drop, hn]
  by_cases he : l.drop j = []
  · have : n - j = 0 := by rw [← hlen, he]; rfl
    rw [he, this]
    exact .inl ⟨rfl, _, _, rfl, fun h => by cases h⟩
  · rcases h0 with ⟨e, _⟩ | ⟨_, b', off', cap', hv, hc', hm, hcell⟩
    · subst e; simp at he
    · simp only [Value.slice.injEq, Option.some.injEq, Addr.mk.injEq] at hv
      obtain ⟨⟨rfl, rfl, _⟩, _, rfl⟩ := hv
      refine .inr ⟨he, b, off + j, cap - j, by rw [hlen], by rw [List.length_drop]; omega, by omega, fun i x hi => ?_⟩
      rw [List.getElem?_drop] at hi
      have := hcell (j + i) x hi
      rw [Nat.add_assoc]
      exact this
set_option maxHeartbeats 1000000 in
theorem fget_err_any (b : List Int) (n j e : Int) (v : Value) (w : World) (hv : Octs w v b) (hg : getRet b = .tuple #[.int .u64 n, .int .i64 j, .int .i64 e]) (he : e ≠ 0) :
    Calls Tryz.prog 89 #[v] w fun e' w' => e' = .returned (.tuple #[.agg #[.int .i64 0, .slice none 0 0], .int .i64 0, .int .i64 e]) ∧ Below w.heap.size w w' := by
  obtain ⟨a, cap, rfl, hcap, hmax⟩ := hv.len
  have HV : Hid (∀ o, Octs (w.alloc o) (.slice a b.length cap) b) := fun o => hv.up (up_alloc w o)
  have he' : (e == 0) = false := by simp [he]
  clear hv hcap hmax
  go_enter Tryz.func89, Tryz.ntmps89
  go_wp2_with fail
  refine (get_any b _ _ (HV.out _)).mono ?_
  rintro e1 w1 ⟨rfl, d, rfl⟩
  rw [hg]
  have B0 : Hid (((w.alloc (.cells #[.int .i64 0, .slice none 0 0] 154)).drewN d).heap[w.heap.size]? = some (.cells #[.int .i64 0, .slice none 0 0] 154)) := blk_up (blk_new w _) (up_drewN _ d)
  have U0 : Hid (Below w.heap.size w ((w.alloc (.cells #[.int .i64 0, .slice none 0 0] 154)).drewN d)) := up_trans (up_alloc w _) (up_drewN _ d)
  generalize (w.alloc (.cells #[.int .i64 0, .slice none 0 0] 154)).drewN d = w1 at *
  have q0 := blk_cell B0.out 0 _ rfl
  have q1 := blk_cell B0.out 1 _ rfl
  have z0 := blk_frozen B0.out 0
  have z1 := blk_frozen B0.out 1
  go_wp2
  refine bodyPost_ret (results_rec3 rfl (.inl rfl) _ _ rfl (set2_blk B0.out _ _)) rfl ?_
  exact ⟨rfl, U0.out.grown (set2_grown _ _ _ _) U0.out.size (fun k hk => by injection hk with hk; omega)⟩
set_option maxHeartbeats 1000000 in
theorem fget_long_any (b : List Int) (n j : Int) (v : Value) (w : World) (hv : Octs w v b) (hg : getRet b = .tuple #[.int .u64 n, .int .i64 j, .int .i64 0]) (hn : 65536 < n) :
    Calls Tryz.prog 89 #[v] w fun e' w' => e' = .returned (.tuple #[.agg #[.int .i64 0, .slice none 0 0], .int .i64 0, .int .i64 5]) ∧ Below w.heap.size w w' := by
  obtain ⟨a, cap, rfl, hcap, hmax⟩ := hv.len
  have HV : Hid (∀ o, Octs (w.alloc o) (.slice a b.length cap) b) := fun o => hv.up (up_alloc w o)
  clear hv hcap hmax
  go_enter Tryz.func89, Tryz.ntmps89
  go_wp2_with fail
  refine (get_any b _ _ (HV.out _)).mono ?_
  rintro e1 w1 ⟨rfl, d, rfl⟩
  rw [hg]
  have B0 : Hid (((w.alloc (.cells #[.int .i64 0, .slice none 0 0] 154)).drewN d).heap[w.heap.size]? = some (.cells #[.int .i64 0, .slice none 0 0] 154)) := blk_up (blk_new w _) (up_drewN _ d)
  have U0 : Hid (Below w.heap.size w ((w.alloc (.cells #[.int .i64 0, .slice none 0 0] 154)).drewN d)) := up_trans (up_alloc w _) (up_drewN _ d)
  generalize (w.alloc (.cells #[.int .i64 0, .slice none 0 0] 154)).drewN d = w1 at *
  have q0 := blk_cell B0.out 0 _ rfl
  have q1 := blk_cell B0.out 1 _ rfl
  have z0 := blk_frozen B0.out 0
  have z1 := blk_frozen B0.out 1
  go_wp2
  refine bodyPost_ret (results_rec3 rfl (.inl rfl) _ _ rfl (set2_blk B0.out _ _)) rfl ?_
  exact ⟨rfl, U0.out.grown (set2_grown _ _ _ _) U0.out.size (fun k hk => by injection hk with hk; omega)⟩
set_option maxHeartbeats 1000000 in
theorem fget_short_any (b : List Int) (n j : Nat) (v : Value) (w : World) (hv : Octs w v b) (hg : getRet b = .tuple #[.int .u64 (n : Int), .int .i64 (j : Int), .int .i64 0]) (hn : n ≤ 65536) (hj : j ≤ 9) (hl : b.length < j + 1 + n + 4) :
    Calls Tryz.prog 89 #[v] w fun e' w' => e' = .returned (.tuple #[.agg #[.int .i64 0, .slice none 0 0], .int .i64 0, .int .i64 8]) ∧ Below w.heap.size w w' := by
  have g0 : ¬ (65536 : Int) < (n : Int) := by omega
  have g1 : IntKind.i64.wrap (n : Int) = (n : Int) := by simp [IntKind.wrap, IntKind.bits, IntKind.signed]; omega
  have g2 : (b.length : Int) < (j : Int) + 1 + (n : Int) + 4 := by omega
  obtain ⟨a, cap, rfl, hcap, hmax⟩ := hv.len
  have HV : Hid (∀ o, Octs (w.alloc o) (.slice a b.length cap) b) := fun o => hv.up (up_alloc w o)
  clear hv hcap hmax
  go_enter Tryz.func89, Tryz.ntmps89
  go_wp2_with fail
  refine (get_any b _ _ (HV.out _)).mono ?_
  rintro e1 w1 ⟨rfl, d, rfl⟩
  rw [hg]
  have B0 : Hid (((w.alloc (.cells #[.int .i64 0, .slice none 0 0] 154)).drewN d).heap[w.heap.size]? = some (.cells #[.int .i64 0, .slice none 0 0] 154)) := blk_up (blk_new w _) (up_drewN _ d)
  have U0 : Hid (Below w.heap.size w ((w.alloc (.cells #[.int .i64 0, .slice none 0 0] 154)).drewN d)) := up_trans (up_alloc w _) (up_drewN _ d)
  generalize (w.alloc (.cells #[.int .i64 0, .slice none 0 0] 154)).drewN d = w1 at *
  have q0 := blk_cell B0.out 0 _ rfl
  have q1 := blk_cell B0.out 1 _ rfl
  have z0 := blk_frozen B0.out 0
  have z1 := blk_frozen B0.out 1
  go_wp2
  refine bodyPost_ret (results_rec3 rfl (.inl rfl) _ _ rfl (set2_blk B0.out _ _)) rfl ?_
  exact ⟨rfl, U0.out.grown (set2_grown _ _ _ _) U0.out.size (fun k hk => by injection hk with hk; omega)⟩
set_option maxHeartbeats 1000000 in
theorem fget_bare_any (b : List Int) (n j : Nat) (v : Value) (w : World) (hv : Octs w v b) (hg : getRet b = .tuple #[.int .u64 (n : Int), .int .i64 (j : Int), .int .i64 0]) (hn : n ≤ 65536) (hj : j ≤ 9) (hl : ¬ b.length < j + 1 + n + 4)
    (x : List Int) (f : Int) (hb : bareOf (b.take (j + 1 + n + 4)) = (x, f)) (hf : f ≠ 0) :
    Calls Tryz.prog 89 #[v] w fun e' w' => e' = .returned (.tuple #[.agg #[.int .i64 0, .slice none 0 0], .int .i64 0, .int .i64 f]) ∧ Below w.heap.size w w' := by
  have g0 : ¬ (65536 : Int) < (n : Int) := by omega
  have g1 : IntKind.i64.wrap (n : Int) = (n : Int) := by simp [IntKind.wrap, IntKind.bits, IntKind.signed]; omega
  have g2 : ¬ (b.length : Int) < (j : Int) + 1 + (n : Int) + 4 := by omega
  have hf' : (f == 0) = false := by simp [hf]
  obtain ⟨bb, off, cap0, rfl, hc0, hm0, _⟩ := hv.at 0 (by omega)
  generalize hcc : cap0 = cap at *
  clear hcc
  have HV : Hid (∀ o, Octs (w.alloc o) (.slice (some ⟨bb, off, none⟩) b.length cap) b) := fun o => hv.up (up_alloc w o)
  have HV1 : Hid (∀ o d, Octs ((w.alloc o).drewN d) (.slice (some ⟨bb, off, none⟩) (j + 1 + n + 4) cap) (b.take (j + 1 + n + 4))) := fun o d => (hv.up (up_trans (up_alloc w o) (up_drewN _ d))).cut rfl _ (by omega)
  unfold maxLen at hm0
  clear hv
  go_enter Tryz.func89, Tryz.ntmps89
  go_wp2_with fail
  refine (get_any b _ _ (HV.out _)).mono ?_
  rintro e1 w1 ⟨rfl, d, rfl⟩
  rw [hg]
  have B0 : Hid (((w.alloc (.cells #[.int .i64 0, .slice none 0 0] 154)).drewN d).heap[w.heap.size]? = some (.cells #[.int .i64 0, .slice none 0 0] 154)) := blk_up (blk_new w _) (up_drewN _ d)
  have U0 : Hid (Below w.heap.size w ((w.alloc (.cells #[.int .i64 0, .slice none 0 0] 154)).drewN d)) := up_trans (up_alloc w _) (up_drewN _ d)
  have HV2 : Hid (Octs ((w.alloc (.cells #[.int .i64 0, .slice none 0 0] 154)).drewN d) (.slice (some ⟨bb, off, none⟩) (j + 1 + n + 4) cap) (b.take (j + 1 + n + 4))) := HV1.out _ _
  generalize (w.alloc (.cells #[.int .i64 0, .slice none 0 0] 154)).drewN d = w1 at *
  have q0 := blk_cell B0.out 0 _ rfl
  have q1 := blk_cell B0.out 1 _ rfl
  have z0 := blk_frozen B0.out 0
  have z1 := blk_frozen B0.out 1
  go_wp2_with fail
  refine (bare_any _ _ _ HV2.out (by rw [List.length_take]; omega)).mono ?_
  rintro e2 w2 ⟨v2, rfl, o2, b2⟩
  rw [hb] at o2 ⊢
  obtain ⟨a2, n2, c2, rfl, N2⟩ := own_shape o2
  have B2 : Hid (w2.heap[w.heap.size]? = some (.cells #[.int .i64 0, .slice none 0 0] 154)) := blk_up B0.out b2
  have U2 : Hid (Below w.heap.size w w2) := up_trans U0.out b2
  clear q0 q1 z0 z1 o2 b2
  have q0 := blk_cell B2.out 0 _ rfl
  have q1 := blk_cell B2.out 1 _ rfl
  have z0 := blk_frozen B2.out 0
  have z1 := blk_frozen B2.out 1
  go_wp2
  refine bodyPost_ret (results_rec3 rfl (.inl rfl) _ _ rfl (set2_blk B2.out _ _)) rfl ?_
  exact ⟨rfl, U2.out.grown (set2_grown _ _ _ _) U2.out.size (fun k hk => by injection hk with hk; omega)⟩
set_option maxHeartbeats 1000000 in
theorem fget_good_any (b : List Int) (n j : Nat) (v : Value) (w : World) (hv : Octs w v b) (hg : getRet b = .tuple #[.int .u64 (n : Int), .int .i64 (j : Int), .int .i64 0]) (hn : n ≤ 65536) (hj : j ≤ 9) (hl : ¬ b.length < j + 1 + n + 4)
    (x : List Int) (hb : bareOf (b.take (j + 1 + n + 4)) = (x, 0)) (hx : x.length = j + 1 + n) (hoct : ∀ y ∈ x, 0 ≤ y ∧ y ≤ 255) :
    Calls Tryz.prog 89 #[v] w fun e' w' => ∃ vd, e' = .returned (.tuple #[.agg #[.int .i64 (x.getD j 0), vd], .int .i64 ((j : Int) + 1 + (n : Int) + 4), .int .i64 0]) ∧ NewB w' w.heap.size vd (x.drop (j + 1)) ∧ Below w.heap.size w w' := by
  have g0 : ¬ (65536 : Int) < (n : Int) := by omega
  have g1 : IntKind.i64.wrap (n : Int) = (n : Int) := by simp [IntKind.wrap, IntKind.bits, IntKind.signed]; omega
  have g2 : ¬ (b.length : Int) < (j : Int) + 1 + (n : Int) + 4 := by omega
  obtain ⟨bb, off, cap0, rfl, hc0, hm0, _⟩ := hv.at 0 (by omega)
  generalize hcc : cap0 = cap at *
  clear hcc
  have HV : Hid (∀ o, Octs (w.alloc o) (.slice (some ⟨bb, off, none⟩) b.length cap) b) := fun o => hv.up (up_alloc w o)
  have HV1 : Hid (∀ o d, Octs ((w.alloc o).drewN d) (.slice (some ⟨bb, off, none⟩) (j + 1 + n + 4) cap) (b.take (j + 1 + n + 4))) := fun o d => (hv.up (up_trans (up_alloc w o) (up_drewN _ d))).cut rfl _ (by omega)
  unfold maxLen at hm0
  clear hv
  go_enter Tryz.func89, Tryz.ntmps89
  go_wp2_with fail
  refine (get_any b _ _ (HV.out _)).mono ?_
  rintro e1 w1 ⟨rfl, d, rfl⟩
  rw [hg]
  have B0 : Hid (((w.alloc (.cells #[.int .i64 0, .slice none 0 0] 154)).drewN d).heap[w.heap.size]? = some (.cells #[.int .i64 0, .slice none 0 0] 154)) := blk_up (blk_new w _) (up_drewN _ d)
  have U0 : Hid (Below w.heap.size w ((w.alloc (.cells #[.int .i64 0, .slice none 0 0] 154)).drewN d)) := up_trans (up_alloc w _) (up_drewN _ d)
  have HV2 : Hid (Octs ((w.alloc (.cells #[.int .i64 0, .slice none 0 0] 154)).drewN d) (.slice (some ⟨bb, off, none⟩) (j + 1 + n + 4) cap) (b.take (j + 1 + n + 4))) := HV1.out _ _
  generalize (w.alloc (.cells #[.int .i64 0, .slice none 0 0] 154)).drewN d = w1 at *
  have q0 := blk_cell B0.out 0 _ rfl
  have q1 := blk_cell B0.out 1 _ rfl
  have z0 := blk_frozen B0.out 0
  have z1 := blk_frozen B0.out 1
  go_wp2_with fail
  refine (bare_any _ _ _ HV2.out (by rw [List.length_take]; omega)).mono ?_
  rintro e2 w2 ⟨v2, rfl, o2, b2⟩
  rw [hb] at o2 ⊢
  replace o2 : OwnB w2 w1.heap.size v2 x := o2
  have hne : x ≠ [] := by intro e; rw [e] at hx; simp at hx; omega
  obtain ⟨g, c2, rfl, hg1, hg2, hc2, hm2⟩ := own_form o2 hne
  have hs1 : w.heap.size < w1.heap.size := blk_lt B0.out
  have hO := Octs.own o2 hoct
  obtain ⟨g', off', cap', e', _, _, hcell⟩ := hO.at j (by omega)
  simp only [Value.slice.injEq, Option.some.injEq, Addr.mk.injEq] at e'
  obtain ⟨⟨rfl, rfl, _⟩, _, rfl⟩ := e'
  rw [Nat.zero_add] at hcell
  have HD : Hid (NewB w2 w.heap.size (.slice (some ⟨g, j + 1, none⟩) n (c2 - (j + 1))) (x.drop (j + 1))) := by
    have h := hO.back rfl (j + 1) (by omega) hc2
    rw [Nat.zero_add, show x.length - (j + 1) = n by omega] at h
    exact ⟨h, fun k hk => by simp [Value.ownBlock] at hk; omega⟩
  have HD0 : Hid (n = 0 → NewB w2 w.heap.size (.slice (some ⟨g, 0, none⟩) n 0) (x.drop (j + 1))) := by
    rintro rfl
    have e : x.drop (j + 1) = [] := List.drop_eq_nil_iff.2 (by omega)
    rw [e]
    exact ⟨⟨by simp, .inl ⟨rfl, _, _, rfl, fun h => by cases h⟩⟩, fun k hk => by simp [Value.ownBlock] at hk; omega⟩
  have HNE : Hid (g ≠ w.heap.size) := by unfold Hid; omega
  have B2 : Hid (w2.heap[w.heap.size]? = some (.cells #[.int .i64 0, .slice none 0 0] 154)) := blk_up B0.out b2
  have U2 : Hid (Below w.heap.size w w2) := up_trans U0.out b2
  have hk := hO.oct j (by omega)
  have g5 : x.length - (j + 1) = n := by omega
  have hjx : j < x.length := by omega
  have hjx' : j + 1 ≤ x.length := by omega
  clear q0 q1 z0 z1 o2 b2 hO
  have q0 := blk_cell B2.out 0 _ rfl
  have q1 := blk_cell B2.out 1 _ rfl
  have z0 := blk_frozen B2.out 0
  have z1 := blk_frozen B2.out 1
  obtain ⟨kd, hkd⟩ : ∃ kd, x.getD j 0 = kd := ⟨_, rfl⟩
  rw [hkd] at hcell hk
  have HK : Hid (x[j]?.getD 0 = kd) := by unfold Hid; rw [← hkd]; rfl
  clear hkd
  go_wp2_with fail
  go_region
  all_goals go_wp2_with fail
  · refine bodyPost_ret (results_rec3 rfl (.inl rfl) _ _ rfl (blk_up (set2_blk B2.out _ _) (up_dr (Below.refl _ _)))) rfl ?_
    rw [HK.out]
    refine ⟨_, rfl, (HD0.out (by omega)).far (grown_trans (set2_grown _ _ _ _) (grown_up (up_dr (Below.refl _ _)) _)) (fun k hk e => ?_), U2.out.grown (grown_trans (set2_grown _ _ _ _) (grown_up (up_dr (Below.refl _ _)) _)) U2.out.size (fun k hk => ?_)⟩
    · simp [Value.ownBlock] at hk e; exact HNE.out (by omega)
    · simp at hk; omega
  · refine bodyPost_ret (results_rec3 rfl (.inl rfl) _ _ rfl (blk_up (set2_blk B2.out _ _) (up_dr (Below.refl _ _)))) rfl ?_
    rw [HK.out]
    refine ⟨_, rfl, HD.out.far (grown_trans (set2_grown _ _ _ _) (grown_up (up_dr (Below.refl _ _)) _)) (fun k hk e => ?_), U2.out.grown (grown_trans (set2_grown _ _ _ _) (grown_up (up_dr (Below.refl _ _)) _)) U2.out.size (fun k hk => ?_)⟩
    · simp [Value.ownBlock] at hk e; exact HNE.out (by omega)
    · simp at hk; omega
theorem bareOf_good {l x : List Int} (h : bareOf l = (x, 0)) : x.length + 4 = l.length ∧ x = l.take x.length := by
  unfold bareOf at h
  split at h
  · simp at h
  · split at h
    · simp at h
      subst h
      rw [List.length_take]
      refine ⟨by omega, ?_⟩
      rw [Nat.min_eq_left (by omega)]
    · simp at h
theorem fget_any (b : List Int) (v : Value) (w : World) (hv : Octs w v b) :
    Calls Tryz.prog 89 #[v] w fun e w' => ∃ vd, e = .returned (.tuple #[.agg #[.int .i64 (fget b).1, vd], .int .i64 (fget b).2.2.1, .int .i64 (fget b).2.2.2]) ∧ NewB w' w.heap.size vd (fget b).2.1 ∧ Below w.heap.size w w' := by
  have bad : ∀ e, fget b = (0, [], 0, e) → (Calls Tryz.prog 89 #[v] w fun e' w' => e' = .returned (.tuple #[.agg #[.int .i64 0, .slice none 0 0], .int .i64 0, .int .i64 e]) ∧ Below w.heap.size w w') →
      Calls Tryz.prog 89 #[v] w fun e w' => ∃ vd, e = .returned (.tuple #[.agg #[.int .i64 (fget b).1, vd], .int .i64 (fget b).2.2.1, .int .i64 (fget b).2.2.2]) ∧ NewB w' w.heap.size vd (fget b).2.1 ∧ Below w.heap.size w w' := by
    intro e he hc
    refine hc.mono ?_
    rintro e' w' ⟨rfl, hb⟩
    rw [he]
    exact ⟨_, rfl, NewB.nil _ _, hb⟩
  rcases get_says b hv.1 with hg | hg | ⟨n, j, hg, n0, n1, j1, jl, ho, j9⟩
  · exact bad 8 (fget_err (getRet_inj hg) (by decide)) (fget_err_any b 0 0 8 v w hv hg (by decide))
  · exact bad 4 (fget_err (getRet_inj hg) (by decide)) (fget_err_any b 0 0 4 v w hv hg (by decide))
  · have hG := getRet_inj hg
    by_cases h1 : 65536 < n
    · exact bad 5 (fget_long hG h1) (fget_long_any b n j v w hv hg h1)
    obtain ⟨m, rfl⟩ : ∃ m : Nat, n = (m : Int) := ⟨n.toNat, by omega⟩
    by_cases h2 : b.length < j + 1 + m + 4
    · exact bad 8 (fget_short hG h1 (by omega)) (fget_short_any b m j v w hv hg (by omega) j9 h2)
    have hm : ((j : Int) + 1 + (m : Int) + 4).toNat = j + 1 + m + 4 := by omega
    obtain ⟨x, f, hb⟩ : ∃ x f, bareOf (b.take (j + 1 + m + 4)) = (x, f) := ⟨_, _, rfl⟩
    by_cases hf : f = 0
    · subst hf
      obtain ⟨h3, h4⟩ := bareOf_good hb
      rw [List.length_take] at h3
      rw [fget_good hG h1 (by omega) hm hb]
      refine fget_good_any b m j v w hv hg (by omega) j9 h2 x hb (by omega) ?_
      intro y hy
      rw [h4] at hy
      exact hv.1 y (List.mem_of_mem_take (List.mem_of_mem_take hy))
    · exact bad f (fget_bad hG h1 (by omega) hm hb hf) (fget_bare_any b m j v w hv hg (by omega) j9 h2 x f hb hf)
end Go.Proofs.YtnchjlimkgbfpaaGreatDoor

namespace Go.Proofs.YtnchjlimkgbfpaaGreatDoor
open Go.RowKit SumPlain
set_option linter.unusedVariables false
set_option maxRecDepth 20000
theorem frame_len (k : Int) (l : List Int) : (frameOf k l).length = (octets (l.length : Int)).length + 1 + l.length + 4 := by
  unfold frameOf
  rw [guard_len]
  simp
  omega
theorem frame_octet (k : Int) (l : List Int) (hk : 0 ≤ k ∧ k ≤ 255) (hl : l.length ≤ 65536) (hx : ∀ x ∈ l, 0 ≤ x ∧ x ≤ 255) : ∀ x ∈ frameOf k l, 0 ≤ x ∧ x ≤ 255 := by
  refine guard_octet _ ?_
  intro x hx'
  rcases List.mem_append.1 hx' with h | h
  · exact (octets_form _ (by omega) (by omega)).octet x h
  · rcases List.mem_cons.1 h with h | h
    · omega
    · exact hx x h
theorem getOf_frame (k : Int) (l more : List Int) (hl : l.length ≤ 65536) : getOf (frameOf k l ++ more) = ((l.length : Int), (((octets (l.length : Int)).length : Nat) : Int), 0) := by
  have h := getOf_back (l.length : Int) (by omega) (by omega) (k :: l ++ lastL (ext ones (octets (l.length : Int) ++ k :: l)) ++ more)
  have e : octets (l.length : Int) ++ (k :: l ++ lastL (ext ones (octets (l.length : Int) ++ k :: l)) ++ more) = frameOf k l ++ more := by
    unfold frameOf guardOf
    simp
  rw [e] at h
  rw [getRet_inj h, ← (octets_form (l.length : Int) (by omega) (by omega)).size]
theorem fget_back (k : Int) (l more : List Int) (hl : l.length ≤ 65536) : fget (frameOf k l ++ more) = (k, l, ((frameOf k l).length : Int), 0) := by
  have hF := frame_len k l
  have hm : ((((octets (l.length : Int)).length : Nat) : Int) + 1 + (l.length : Int) + 4).toNat = (frameOf k l).length := by omega
  have hb : bareOf ((frameOf k l ++ more).take (frameOf k l).length) = (octets (l.length : Int) ++ k :: l, 0) := by
    rw [List.take_left]
    exact bare_guard _
  rw [fget_good (getOf_frame k l more hl) (by omega) (by rw [List.length_append]; omega) hm hb]
  have e1 : (octets (l.length : Int) ++ k :: l).getD (octets (l.length : Int)).length 0 = k := by simp
  have e2 : (octets (l.length : Int) ++ k :: l).drop ((octets (l.length : Int)).length + 1) = l := by
    rw [← List.drop_drop, List.drop_left]
    rfl
  rw [e1, e2, hF]
  simp
end Go.Proofs.YtnchjlimkgbfpaaGreatDoor

namespace Go.Proofs.YtnchjlimkgbfpaaGreatDoor
open Go.RowKit SumPlain
set_option linter.unusedVariables false
set_option maxRecDepth 20000
def scanF : Nat → List Int → List (Int × List Int × Nat)
  | 0, _ => []
  | f + 1, b => if (fget b).2.2.2 = 0 then ((fget b).1, (fget b).2.1, (fget b).2.2.1.toNat) :: scanF f (b.drop (fget b).2.2.1.toNat) else []
def scanOf (b : List Int) : List (Int × List Int × Nat) := scanF (b.length + 1) b
def lenOf : List (Int × List Int × Nat) → Nat
  | [] => 0
  | x :: r => x.2.2 + lenOf r
theorem lenOf_append : ∀ (x y : List (Int × List Int × Nat)), lenOf (x ++ y) = lenOf x + lenOf y
  | [], y => by simp [lenOf]
  | a :: r, y => by simp only [List.cons_append, lenOf, lenOf_append r y]; omega
theorem fget_ok (b : List Int) (hx : ∀ x ∈ b, 0 ≤ x ∧ x ≤ 255) (h : (fget b).2.2.2 = 0) :
    ∃ n : Nat, (fget b).2.2.1 = (n : Int) ∧ 6 ≤ n ∧ n ≤ b.length ∧ (0 ≤ (fget b).1 ∧ (fget b).1 ≤ 255) ∧ (∀ x ∈ (fget b).2.1, 0 ≤ x ∧ x ≤ 255) ∧ (fget b).2.1.length ≤ 65536 ∧ n ≤ 65550 := by
  rcases get_says b hx with hg | hg | ⟨n, j, hg, n0, n1, j1, jl, ho, j9⟩
  · rw [fget_err (getRet_inj hg) (by decide)] at h; cases h
  · rw [fget_err (getRet_inj hg) (by decide)] at h; cases h
  · have hG := getRet_inj hg
    by_cases h1 : 65536 < n
    · rw [fget_long hG h1] at h; cases h
    obtain ⟨m, rfl⟩ : ∃ m : Nat, n = (m : Int) := ⟨n.toNat, by omega⟩
    by_cases h2 : b.length < j + 1 + m + 4
    · rw [fget_short hG h1 (by omega)] at h; cases h
    have hm : ((j : Int) + 1 + (m : Int) + 4).toNat = j + 1 + m + 4 := by omega
    obtain ⟨x, f, hb⟩ : ∃ x f, bareOf (b.take (j + 1 + m + 4)) = (x, f) := ⟨_, _, rfl⟩
    by_cases hf : f = 0
    · subst hf
      obtain ⟨h3, h4⟩ := bareOf_good hb
      rw [List.length_take] at h3
      have hxo : ∀ y ∈ x, 0 ≤ y ∧ y ≤ 255 := by
        intro y hy
        rw [h4] at hy
        exact hx y (List.mem_of_mem_take (List.mem_of_mem_take hy))
      rw [fget_good hG h1 (by omega) hm hb]
      refine ⟨j + 1 + m + 4, by simp, by omega, by omega, hxo _ (by simp only [List.getD, List.getElem?_eq_getElem (show j < x.length by omega)]; exact List.getElem_mem _), fun y hy => hxo y (List.mem_of_mem_drop hy), ?_, by omega⟩
      show (x.drop (j + 1)).length ≤ 65536
      rw [List.length_drop]
      omega
    · rw [fget_bad hG h1 (by omega) hm hb hf] at h; exact absurd h hf
theorem scanF_len : ∀ (f : Nat) (b : List Int), (∀ x ∈ b, 0 ≤ x ∧ x ≤ 255) → lenOf (scanF f b) ≤ b.length ∧ 6 * (scanF f b).length ≤ b.length
  | 0, b, _ => by simp [scanF, lenOf]
  | f + 1, b, hx => by
    unfold scanF
    split
    · rename_i h
      obtain ⟨n, hn, h6, hl, _⟩ := fget_ok b hx h
      have ih := scanF_len f (b.drop n) (fun x hx' => hx x (List.mem_of_mem_drop hx'))
      rw [List.length_drop] at ih
      rw [hn]
      simp only [lenOf, List.length_cons, Int.toNat_natCast]
      omega
    · simp [lenOf]
def ScanAt (b : List Int) (pre : List (Int × List Int × Nat)) (off f : Nat) : Prop :=
  scanOf b = pre ++ scanF f (b.drop off) ∧ lenOf pre = off ∧ off ≤ b.length ∧ b.length - off < f
theorem ScanAt.start (b : List Int) : ScanAt b [] 0 (b.length + 1) := ⟨by simp [scanOf], rfl, Nat.zero_le _, by omega⟩
theorem ScanAt.ends {b : List Int} {pre : List (Int × List Int × Nat)} {off f : Nat} (h : ScanAt b pre off f) (he : ¬ (fget (b.drop off)).2.2.2 = 0) : scanOf b = pre ∧ lenOf (scanOf b) = off := by
  obtain ⟨h1, h2, h3, h4⟩ := h
  obtain ⟨f', rfl⟩ : ∃ f', f = f' + 1 := ⟨f - 1, by omega⟩
  unfold scanF at h1
  rw [if_neg he, List.append_nil] at h1
  exact ⟨h1, by rw [h1]; exact h2⟩
theorem ScanAt.goes {b : List Int} (hx : ∀ x ∈ b, 0 ≤ x ∧ x ≤ 255) {pre : List (Int × List Int × Nat)} {off f n : Nat} (h : ScanAt b pre off f) (he : (fget (b.drop off)).2.2.2 = 0) (hn : (fget (b.drop off)).2.2.1 = (n : Int)) :
    ScanAt b (pre ++ [((fget (b.drop off)).1, (fget (b.drop off)).2.1, n)]) (off + n) (f - 1) ∧ 6 ≤ n ∧ off + n ≤ b.length := by
  obtain ⟨h1, h2, h3, h4⟩ := h
  obtain ⟨f', rfl⟩ : ∃ f', f = f' + 1 := ⟨f - 1, by omega⟩
  obtain ⟨n', hn', h6, hl, _⟩ := fget_ok (b.drop off) (fun x hx' => hx x (List.mem_of_mem_drop hx')) he
  rw [List.length_drop] at hl
  have : n' = n := by rw [hn] at hn'; omega
  subst this
  unfold scanF at h1
  rw [if_pos he, hn] at h1
  refine ⟨⟨?_, ?_, by omega, by omega⟩, h6, by omega⟩
  · rw [h1]
    simp [List.drop_drop]
  · rw [lenOf_append, h2]
    simp [lenOf]
end Go.Proofs.YtnchjlimkgbfpaaGreatDoor

namespace Go.Proofs.YtnchjlimkgbfpaaGreatDoor
open Go.RowKit SumPlain
set_option linter.unusedVariables false
set_option maxRecDepth 20000
def OkRec (g : Int × List Int) : Prop := (0 ≤ g.1 ∧ g.1 ≤ 255) ∧ g.2.length ≤ 65536 ∧ ∀ x ∈ g.2, 0 ≤ x ∧ x ≤ 255
def catF : List (Int × List Int) → List Int
  | [] => []
  | g :: r => frameOf g.1 g.2 ++ catF r
def trip (g : Int × List Int) : Int × List Int × Nat := (g.1, g.2, (frameOf g.1 g.2).length)
def cntF : List (Int × List Int) → Nat → Nat
  | [], _ => 0
  | g :: r, m => if (frameOf g.1 g.2).length ≤ m then 1 + cntF r (m - (frameOf g.1 g.2).length) else 0
theorem fget_cut (k : Int) (l : List Int) (hl : l.length ≤ 65536) (j : Nat) (hj : j < (frameOf k l).length) : (fget ((frameOf k l).take j)).2.2.2 ≠ 0 := by
  have hF := frame_len k l
  by_cases h : j < (octets (l.length : Int)).length
  · have e : (frameOf k l).take j = (octets (l.length : Int)).take j := by
      unfold frameOf guardOf
      rw [List.append_assoc, List.take_append_of_le_length (by omega)]
    have hg := getOf_cut (l.length : Int) (by omega) (by omega) j h
    rw [e, fget_err (getRet_inj hg) (by decide)]
    decide
  · have e : ∃ more, (frameOf k l).take j = octets (l.length : Int) ++ more := by
      refine ⟨((frameOf k l).take j).drop (octets (l.length : Int)).length, ?_⟩
      have h1 : ((frameOf k l).take j).take (octets (l.length : Int)).length = octets (l.length : Int) := by
        rw [List.take_take, Nat.min_eq_left (by omega)]
        unfold frameOf guardOf
        rw [List.append_assoc, List.take_left]
      rw [← h1, List.length_take, Nat.min_eq_left (by rw [List.length_take]; omega), List.take_append_drop]
    obtain ⟨more, e⟩ := e
    have hg := getOf_back (l.length : Int) (by omega) (by omega) more
    rw [← e] at hg
    have hG := getRet_inj hg
    rw [← (octets_form (l.length : Int) (by omega) (by omega)).size] at hG
    rw [fget_short hG (by omega) (by rw [List.length_take]; omega)]
    decide
theorem fget_none : (fget []).2.2.2 ≠ 0 := by decide +kernel
theorem scanF_cut : ∀ (gs : List (Int × List Int)) (m f : Nat), (∀ g ∈ gs, OkRec g) → m ≤ (catF gs).length → m < f → scanF f ((catF gs).take m) = (gs.take (cntF gs m)).map trip
  | [], m, f, _, hm, hf => by
    obtain ⟨f', rfl⟩ : ∃ f', f = f' + 1 := ⟨f - 1, by omega⟩
    simp only [catF, List.take_nil, cntF, List.map_nil]
    unfold scanF
    rw [if_neg fget_none]
  | g :: r, m, f, hok, hm, hf => by
    obtain ⟨f', rfl⟩ : ∃ f', f = f' + 1 := ⟨f - 1, by omega⟩
    obtain ⟨hk, hl, hx⟩ := hok g (by simp)
    have hF := frame_len g.1 g.2
    simp only [catF, List.length_append] at hm
    simp only [catF, cntF]
    by_cases h : (frameOf g.1 g.2).length ≤ m
    · rw [if_pos h, List.take_append, List.take_of_length_le h]
      have hb := fget_back g.1 g.2 ((catF r).take (m - (frameOf g.1 g.2).length)) hl
      unfold scanF
      rw [hb]
      simp only [if_true]
      have ih := scanF_cut r (m - (frameOf g.1 g.2).length) f' (fun q hq => hok q (by simp [hq])) (by omega) (by omega)
      rw [Int.toNat_natCast, List.drop_left, ih, Nat.add_comm 1, List.take_succ_cons, List.map_cons]
      rfl
    · rw [if_neg h, List.take_append_of_le_length (by omega)]
      unfold scanF
      rw [if_neg (fget_cut g.1 g.2 hl m (by omega))]
      rfl
theorem scanOf_cut (gs : List (Int × List Int)) (hok : ∀ g ∈ gs, OkRec g) (m : Nat) (hm : m ≤ (catF gs).length) : scanOf ((catF gs).take m) = (gs.take (cntF gs m)).map trip := by
  unfold scanOf
  refine scanF_cut gs m _ hok hm ?_
  rw [List.length_take]
  omega
end Go.Proofs.YtnchjlimkgbfpaaGreatDoor

namespace Go.Proofs.YtnchjlimkgbfpaaGreatDoor
open Go.RowKit
set_option linter.unusedVariables false
set_option maxRecDepth 20000
end Go.Proofs.YtnchjlimkgbfpaaGreatDoor
