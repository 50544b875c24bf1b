/- The texts FGet, FOct, DMath, in this order. -/
import Derived.Test.YtnchjlimkgbfpaaGreatDoorE10
import Derived.Test.YtnchjlimkgbfpaaGreatDoorVAgain
import Derived.Test.YtnchjlimkgbfpaaGreatDoorE09

namespace Go.Proofs.YtnchjlimkgbfpaaGreatDoor
open Go.RowKit SumPlain
set_option linter.unusedVariables false
set_option maxRecDepth 20000
def fget (b : List Int) : Int × List Int × Int × Int :=
  if (getOf b).2.2 ≠ 0 then (0, [], 0, (getOf b).2.2) else
  if 65536 < (getOf b).1 then (0, [], 0, 5) else
  if (b.length : Int) < (getOf b).2.1 + 1 + (getOf b).1 + 4 then (0, [], 0, 8) else
  if (bareOf (b.take ((getOf b).2.1 + 1 + (getOf b).1 + 4).toNat)).2 ≠ 0 then (0, [], 0, (bareOf (b.take ((getOf b).2.1 + 1 + (getOf b).1 + 4).toNat)).2) else
  ((bareOf (b.take ((getOf b).2.1 + 1 + (getOf b).1 + 4).toNat)).1.getD (getOf b).2.1.toNat 0, (bareOf (b.take ((getOf b).2.1 + 1 + (getOf b).1 + 4).toNat)).1.drop ((getOf b).2.1.toNat + 1), (getOf b).2.1 + 1 + (getOf b).1 + 4, 0)
theorem getRet_inj {l : List Int} {n j e : Int} (h : getRet l = .tuple #[.int .u64 n, .int .i64 j, .int .i64 e]) : getOf l = (n, j, e) := by
  unfold getRet at h
  simp at h
  obtain ⟨h1, h2, h3⟩ := h
  ext <;> simp [h1, h2, h3]
theorem fget_err {b : List Int} {n j e : Int} (h : getOf b = (n, j, e)) (he : e ≠ 0) : fget b = (0, [], 0, e) := by
  unfold fget; rw [h]; simp [he]
theorem fget_long {b : List Int} {n j : Int} (h : getOf b = (n, j, 0)) (hn : 65536 < n) : fget b = (0, [], 0, 5) := by
  unfold fget; rw [h]; simp [hn]
theorem fget_short {b : List Int} {n j : Int} (h : getOf b = (n, j, 0)) (hn : ¬ 65536 < n) (hl : (b.length : Int) < j + 1 + n + 4) : fget b = (0, [], 0, 8) := by
  unfold fget; rw [h]; simp [hn, hl]
theorem fget_bad {b : List Int} {n j : Int} (h : getOf b = (n, j, 0)) (hn : ¬ 65536 < n) (hl : ¬ (b.length : Int) < j + 1 + n + 4) {m : Nat} (hm : (j + 1 + n + 4).toNat = m) {x : List Int} {f : Int} (hb : bareOf (b.take m) = (x, f)) (hf : f ≠ 0) : fget b = (0, [], 0, f) := by
  subst hm
  unfold fget; rw [h]; simp only [hn, hl, hb, if_false]; simp [hf]
theorem fget_good {b : List Int} {n : Int} {j : Nat} (h : getOf b = (n, (j : Int), 0)) (hn : ¬ 65536 < n) (hl : ¬ (b.length : Int) < j + 1 + n + 4) {m : Nat} (hm : ((j : Int) + 1 + n + 4).toNat = m) {x : List Int} (hb : bareOf (b.take m) = (x, 0)) : fget b = (x.getD j 0, x.drop (j + 1), (j : Int) + 1 + n + 4, 0) := by
  subst hm
  unfold fget; rw [h]; simp only [hn, hl, hb, if_false]; simp
theorem own_form {w : World} {base : Nat} {v : Value} {l : List Int} (h : OwnB w base v l) (hl : l ≠ []) :
    ∃ g cap, v = .slice (some ⟨g, 0, none⟩) l.length cap ∧ base ≤ g ∧ g < w.heap.size ∧ l.length ≤ cap ∧ cap ≤ maxLen := by
  have hlt := h.lt
  obtain ⟨_, h2⟩ := h
  rcases h2 with ⟨rfl, h0⟩ | ⟨g, cap, cur, rfl, hg, hh, hn, hm, hs, ht⟩
  · exact absurd (List.length_eq_zero_iff.1 h0) hl
  · exact ⟨g, cap, rfl, hg, (hlt g rfl).2, hn, hm⟩
theorem Octs.cut {w : World} {b off cap n : Nat} {l : List Int} (h : Octs w (.slice (some ⟨b, off, none⟩) n cap) l) (hn : n = l.length) (j : Nat) (hj : j ≤ l.length) : Octs w (.slice (some ⟨b, off, none⟩) j cap) (l.take j) := by
  have := h.front (p := l.take j) (q := l.drop j) (List.take_append_drop j l).symm hn
  rw [List.length_take, Nat.min_eq_left hj] at this
  exact this
theorem Octs.back {w : World} {b off cap n : Nat} {l : List Int} (h : Octs w (.slice (some ⟨b, off, none⟩) n cap) l) (hn : n = l.length) (j : Nat) (hj : j ≤ l.length) (hc : l.length ≤ cap) : Octs w (.slice (some ⟨b, off + j, none⟩) (n - j) (cap - j)) (l.drop j) := by
  obtain ⟨hx, h0⟩ := h
  refine ⟨fun x hx' => hx x (List.mem_of_mem_drop hx'), ?_⟩
  have hlen : (l.drop j).length = n - j := by rw [List.length_drop, hn]
  by_cases he : l.drop j = []
  · have : n - j = 0 := by rw [← hlen, he]; rfl
    rw [he, this]
    exact .inl ⟨rfl, _, _, rfl, fun h => by cases h⟩
  · rcases h0 with ⟨e, _⟩ | ⟨_, b', off', cap', hv, hc', hm, hcell⟩
    · subst e; simp at he
    · simp only [Value.slice.injEq, Option.some.injEq, Addr.mk.injEq] at hv
      obtain ⟨⟨rfl, rfl, _⟩, _, rfl⟩ := hv
      refine .inr ⟨he, b, off + j, cap - j, by rw [hlen], by rw [List.length_drop]; omega, by omega, fun i x hi => ?_⟩
      rw [List.getElem?_drop] at hi
      have := hcell (j + i) x hi
      rw [Nat.add_assoc]
      exact this
set_option maxHeartbeats 1000000 in
theorem fget_err_any (b : List Int) (n j e : Int) (v : Value) (w : World) (hv : Octs w v b) (hg : getRet b = .tuple #[.int .u64 n, .int .i64 j, .int .i64 e]) (he : e ≠ 0) :
    Calls Tryz.prog 89 #[v] w fun e' w' => e' = .returned (.tuple #[.agg #[.int .i64 0, .slice none 0 0], .int .i64 0, .int .i64 e]) ∧ Below w.heap.size w w' := by
  obtain ⟨a, cap, rfl, hcap, hmax⟩ := hv.len
  have HV : Hid (∀ o, Octs (w.alloc o) (.slice a b.length cap) b) := fun o => hv.up (up_alloc w o)
  have he' : (e == 0) = false := by simp [he]
  clear hv hcap hmax
  go_enter Tryz.func89, Tryz.ntmps89
  go_wp2_with fail
  refine (get_any b _ _ (HV.out _)).mono ?_
  rintro e1 w1 ⟨rfl, d, rfl⟩
  rw [hg]
  have B0 : Hid (((w.alloc (.cells #[.int .i64 0, .slice none 0 0] 154)).drewN d).heap[w.heap.size]? = some (.cells #[.int .i64 0, .slice none 0 0] 154)) := blk_up (blk_new w _) (up_drewN _ d)
  have U0 : Hid (Below w.heap.size w ((w.alloc (.cells #[.int .i64 0, .slice none 0 0] 154)).drewN d)) := up_trans (up_alloc w _) (up_drewN _ d)
  generalize (w.alloc (.cells #[.int .i64 0, .slice none 0 0] 154)).drewN d = w1 at *
  have q0 := blk_cell B0.out 0 _ rfl
  have q1 := blk_cell B0.out 1 _ rfl
  have z0 := blk_frozen B0.out 0
  have z1 := blk_frozen B0.out 1
  go_wp2
  refine bodyPost_ret (results_rec3 rfl (.inl rfl) _ _ rfl (set2_blk B0.out _ _)) rfl ?_
  exact ⟨rfl, U0.out.grown (set2_grown _ _ _ _) U0.out.size (fun k hk => by injection hk with hk; omega)⟩
set_option maxHeartbeats 1000000 in
theorem fget_long_any (b : List Int) (n j : Int) (v : Value) (w : World) (hv : Octs w v b) (hg : getRet b = .tuple #[.int .u64 n, .int .i64 j, .int .i64 0]) (hn : 65536 < n) :
    Calls Tryz.prog 89 #[v] w fun e' w' => e' = .returned (.tuple #[.agg #[.int .i64 0, .slice none 0 0], .int .i64 0, .int .i64 5]) ∧ Below w.heap.size w w' := by
  obtain ⟨a, cap, rfl, hcap, hmax⟩ := hv.len
  have HV : Hid (∀ o, Octs (w.alloc o) (.slice a b.length cap) b) := fun o => hv.up (up_alloc w o)
  clear hv hcap hmax
  go_enter Tryz.func89, Tryz.ntmps89
  go_wp2_with fail
  refine (get_any b _ _ (HV.out _)).mono ?_
  rintro e1 w1 ⟨rfl, d, rfl⟩
  rw [hg]
  have B0 : Hid (((w.alloc (.cells #[.int .i64 0, .slice none 0 0] 154)).drewN d).heap[w.heap.size]? = some (.cells #[.int .i64 0, .slice none 0 0] 154)) := blk_up (blk_new w _) (up_drewN _ d)
  have U0 : Hid (Below w.heap.size w ((w.alloc (.cells #[.int .i64 0, .slice none 0 0] 154)).drewN d)) := up_trans (up_alloc w _) (up_drewN _ d)
  generalize (w.alloc (.cells #[.int .i64 0, .slice none 0 0] 154)).drewN d = w1 at *
  have q0 := blk_cell B0.out 0 _ rfl
  have q1 := blk_cell B0.out 1 _ rfl
  have z0 := blk_frozen B0.out 0
  have z1 := blk_frozen B0.out 1
  go_wp2
  refine bodyPost_ret (results_rec3 rfl (.inl rfl) _ _ rfl (set2_blk B0.out _ _)) rfl ?_
  exact ⟨rfl, U0.out.grown (set2_grown _ _ _ _) U0.out.size (fun k hk => by injection hk with hk; omega)⟩
set_option maxHeartbeats 1000000 in
theorem fget_short_any (b : List Int) (n j : Nat) (v : Value) (w : World) (hv : Octs w v b) (hg : getRet b = .tuple #[.int .u64 (n : Int), .int .i64 (j : Int), .int .i64 0]) (hn : n ≤ 65536) (hj : j ≤ 9) (hl : b.length < j + 1 + n + 4) :
    Calls Tryz.prog 89 #[v] w fun e' w' => e' = .returned (.tuple #[.agg #[.int .i64 0, .slice none 0 0], .int .i64 0, .int .i64 8]) ∧ Below w.heap.size w w' := by
  have g0 : ¬ (65536 : Int) < (n : Int) := by omega
  have g1 : IntKind.i64.wrap (n : Int) = (n : Int) := by simp [IntKind.wrap, IntKind.bits, IntKind.signed]; omega
  have g2 : (b.length : Int) < (j : Int) + 1 + (n : Int) + 4 := by omega
  obtain ⟨a, cap, rfl, hcap, hmax⟩ := hv.len
  have HV : Hid (∀ o, Octs (w.alloc o) (.slice a b.length cap) b) := fun o => hv.up (up_alloc w o)
  clear hv hcap hmax
  go_enter Tryz.func89, Tryz.ntmps89
  go_wp2_with fail
  refine (get_any b _ _ (HV.out _)).mono ?_
  rintro e1 w1 ⟨rfl, d, rfl⟩
  rw [hg]
  have B0 : Hid (((w.alloc (.cells #[.int .i64 0, .slice none 0 0] 154)).drewN d).heap[w.heap.size]? = some (.cells #[.int .i64 0, .slice none 0 0] 154)) := blk_up (blk_new w _) (up_drewN _ d)
  have U0 : Hid (Below w.heap.size w ((w.alloc (.cells #[.int .i64 0, .slice none 0 0] 154)).drewN d)) := up_trans (up_alloc w _) (up_drewN _ d)
  generalize (w.alloc (.cells #[.int .i64 0, .slice none 0 0] 154)).drewN d = w1 at *
  have q0 := blk_cell B0.out 0 _ rfl
  have q1 := blk_cell B0.out 1 _ rfl
  have z0 := blk_frozen B0.out 0
  have z1 := blk_frozen B0.out 1
  go_wp2
  refine bodyPost_ret (results_rec3 rfl (.inl rfl) _ _ rfl (set2_blk B0.out _ _)) rfl ?_
  exact ⟨rfl, U0.out.grown (set2_grown _ _ _ _) U0.out.size (fun k hk => by injection hk with hk; omega)⟩
set_option maxHeartbeats 1000000 in
theorem fget_bare_any (b : List Int) (n j : Nat) (v : Value) (w : World) (hv : Octs w v b) (hg : getRet b = .tuple #[.int .u64 (n : Int), .int .i64 (j : Int), .int .i64 0]) (hn : n ≤ 65536) (hj : j ≤ 9) (hl : ¬ b.length < j + 1 + n + 4)
    (x : List Int) (f : Int) (hb : bareOf (b.take (j + 1 + n + 4)) = (x, f)) (hf : f ≠ 0) :
    Calls Tryz.prog 89 #[v] w fun e' w' => e' = .returned (.tuple #[.agg #[.int .i64 0, .slice none 0 0], .int .i64 0, .int .i64 f]) ∧ Below w.heap.size w w' := by
  have g0 : ¬ (65536 : Int) < (n : Int) := by omega
  have g1 : IntKind.i64.wrap (n : Int) = (n : Int) := by simp [IntKind.wrap, IntKind.bits, IntKind.signed]; omega
  have g2 : ¬ (b.length : Int) < (j : Int) + 1 + (n : Int) + 4 := by omega
  have hf' : (f == 0) = false := by simp [hf]
  obtain ⟨bb, off, cap0, rfl, hc0, hm0, _⟩ := hv.at 0 (by omega)
  generalize hcc : cap0 = cap at *
  clear hcc
  have HV : Hid (∀ o, Octs (w.alloc o) (.slice (some ⟨bb, off, none⟩) b.length cap) b) := fun o => hv.up (up_alloc w o)
  have HV1 : Hid (∀ o d, Octs ((w.alloc o).drewN d) (.slice (some ⟨bb, off, none⟩) (j + 1 + n + 4) cap) (b.take (j + 1 + n + 4))) := fun o d => (hv.up (up_trans (up_alloc w o) (up_drewN _ d))).cut rfl _ (by omega)
  unfold maxLen at hm0
  clear hv
  go_enter Tryz.func89, Tryz.ntmps89
  go_wp2_with fail
  refine (get_any b _ _ (HV.out _)).mono ?_
  rintro e1 w1 ⟨rfl, d, rfl⟩
  rw [hg]
  have B0 : Hid (((w.alloc (.cells #[.int .i64 0, .slice none 0 0] 154)).drewN d).heap[w.heap.size]? = some (.cells #[.int .i64 0, .slice none 0 0] 154)) := blk_up (blk_new w _) (up_drewN _ d)
  have U0 : Hid (Below w.heap.size w ((w.alloc (.cells #[.int .i64 0, .slice none 0 0] 154)).drewN d)) := up_trans (up_alloc w _) (up_drewN _ d)
  have HV2 : Hid (Octs ((w.alloc (.cells #[.int .i64 0, .slice none 0 0] 154)).drewN d) (.slice (some ⟨bb, off, none⟩) (j + 1 + n + 4) cap) (b.take (j + 1 + n + 4))) := HV1.out _ _
  generalize (w.alloc (.cells #[.int .i64 0, .slice none 0 0] 154)).drewN d = w1 at *
  have q0 := blk_cell B0.out 0 _ rfl
  have q1 := blk_cell B0.out 1 _ rfl
  have z0 := blk_frozen B0.out 0
  have z1 := blk_frozen B0.out 1
  go_wp2_with fail
  refine (bare_any _ _ _ HV2.out (by rw [List.length_take]; omega)).mono ?_
  rintro e2 w2 ⟨v2, rfl, o2, b2⟩
  rw [hb] at o2 ⊢
  obtain ⟨a2, n2, c2, rfl, N2⟩ := own_shape o2
  have B2 : Hid (w2.heap[w.heap.size]? = some (.cells #[.int .i64 0, .slice none 0 0] 154)) := blk_up B0.out b2
  have U2 : Hid (Below w.heap.size w w2) := up_trans U0.out b2
  clear q0 q1 z0 z1 o2 b2
  have q0 := blk_cell B2.out 0 _ rfl
  have q1 := blk_cell B2.out 1 _ rfl
  have z0 := blk_frozen B2.out 0
  have z1 := blk_frozen B2.out 1
  go_wp2
  refine bodyPost_ret (results_rec3 rfl (.inl rfl) _ _ rfl (set2_blk B2.out _ _)) rfl ?_
  exact ⟨rfl, U2.out.grown (set2_grown _ _ _ _) U2.out.size (fun k hk => by injection hk with hk; omega)⟩
set_option maxHeartbeats 1000000 in
theorem fget_good_any (b : List Int) (n j : Nat) (v : Value) (w : World) (hv : Octs w v b) (hg : getRet b = .tuple #[.int .u64 (n : Int), .int .i64 (j : Int), .int .i64 0]) (hn : n ≤ 65536) (hj : j ≤ 9) (hl : ¬ b.length < j + 1 + n + 4)
    (x : List Int) (hb : bareOf (b.take (j + 1 + n + 4)) = (x, 0)) (hx : x.length = j + 1 + n) (hoct : ∀ y ∈ x, 0 ≤ y ∧ y ≤ 255) :
    Calls Tryz.prog 89 #[v] w fun e' w' => ∃ vd, e' = .returned (.tuple #[.agg #[.int .i64 (x.getD j 0), vd], .int .i64 ((j : Int) + 1 + (n : Int) + 4), .int .i64 0]) ∧ NewB w' w.heap.size vd (x.drop (j + 1)) ∧ Below w.heap.size w w' := by
  have g0 : ¬ (65536 : Int) < (n : Int) := by omega
  have g1 : IntKind.i64.wrap (n : Int) = (n : Int) := by simp [IntKind.wrap, IntKind.bits, IntKind.signed]; omega
  have g2 : ¬ (b.length : Int) < (j : Int) + 1 + (n : Int) + 4 := by omega
  obtain ⟨bb, off, cap0, rfl, hc0, hm0, _⟩ := hv.at 0 (by omega)
  generalize hcc : cap0 = cap at *
  clear hcc
  have HV : Hid (∀ o, Octs (w.alloc o) (.slice (some ⟨bb, off, none⟩) b.length cap) b) := fun o => hv.up (up_alloc w o)
  have HV1 : Hid (∀ o d, Octs ((w.alloc o).drewN d) (.slice (some ⟨bb, off, none⟩) (j + 1 + n + 4) cap) (b.take (j + 1 + n + 4))) := fun o d => (hv.up (up_trans (up_alloc w o) (up_drewN _ d))).cut rfl _ (by omega)
  unfold maxLen at hm0
  clear hv
  go_enter Tryz.func89, Tryz.ntmps89
  go_wp2_with fail
  refine (get_any b _ _ (HV.out _)).mono ?_
  rintro e1 w1 ⟨rfl, d, rfl⟩
  rw [hg]
  have B0 : Hid (((w.alloc (.cells #[.int .i64 0, .slice none 0 0] 154)).drewN d).heap[w.heap.size]? = some (.cells #[.int .i64 0, .slice none 0 0] 154)) := blk_up (blk_new w _) (up_drewN _ d)
  have U0 : Hid (Below w.heap.size w ((w.alloc (.cells #[.int .i64 0, .slice none 0 0] 154)).drewN d)) := up_trans (up_alloc w _) (up_drewN _ d)
  have HV2 : Hid (Octs ((w.alloc (.cells #[.int .i64 0, .slice none 0 0] 154)).drewN d) (.slice (some ⟨bb, off, none⟩) (j + 1 + n + 4) cap) (b.take (j + 1 + n + 4))) := HV1.out _ _
  generalize (w.alloc (.cells #[.int .i64 0, .slice none 0 0] 154)).drewN d = w1 at *
  have q0 := blk_cell B0.out 0 _ rfl
  have q1 := blk_cell B0.out 1 _ rfl
  have z0 := blk_frozen B0.out 0
  have z1 := blk_frozen B0.out 1
  go_wp2_with fail
  refine (bare_any _ _ _ HV2.out (by rw [List.length_take]; omega)).mono ?_
  rintro e2 w2 ⟨v2, rfl, o2, b2⟩
  rw [hb] at o2 ⊢
  replace o2 : OwnB w2 w1.heap.size v2 x := o2
  have hne : x ≠ [] := by intro e; rw [e] at hx; simp at hx; omega
  obtain ⟨g, c2, rfl, hg1, hg2, hc2, hm2⟩ := own_form o2 hne
  have hs1 : w.heap.size < w1.heap.size := blk_lt B0.out
  have hO := Octs.own o2 hoct
  obtain ⟨g', off', cap', e', _, _, hcell⟩ := hO.at j (by omega)
  simp only [Value.slice.injEq, Option.some.injEq, Addr.mk.injEq] at e'
  obtain ⟨⟨rfl, rfl, _⟩, _, rfl⟩ := e'
  rw [Nat.zero_add] at hcell
  have HD : Hid (NewB w2 w.heap.size (.slice (some ⟨g, j + 1, none⟩) n (c2 - (j + 1))) (x.drop (j + 1))) := by
    have h := hO.back rfl (j + 1) (by omega) hc2
    rw [Nat.zero_add, show x.length - (j + 1) = n by omega] at h
    exact ⟨h, fun k hk => by simp [Value.ownBlock] at hk; omega⟩
  have HD0 : Hid (n = 0 → NewB w2 w.heap.size (.slice (some ⟨g, 0, none⟩) n 0) (x.drop (j + 1))) := by
    rintro rfl
    have e : x.drop (j + 1) = [] := List.drop_eq_nil_iff.2 (by omega)
    rw [e]
    exact ⟨⟨by simp, .inl ⟨rfl, _, _, rfl, fun h => by cases h⟩⟩, fun k hk => by simp [Value.ownBlock] at hk; omega⟩
  have HNE : Hid (g ≠ w.heap.size) := by unfold Hid; omega
  have B2 : Hid (w2.heap[w.heap.size]? = some (.cells #[.int .i64 0, .slice none 0 0] 154)) := blk_up B0.out b2
  have U2 : Hid (Below w.heap.size w w2) := up_trans U0.out b2
  have hk := hO.oct j (by omega)
  have g5 : x.length - (j + 1) = n := by omega
  have hjx : j < x.length := by omega
  have hjx' : j + 1 ≤ x.length := by omega
  clear q0 q1 z0 z1 o2 b2 hO
  have q0 := blk_cell B2.out 0 _ rfl
  have q1 := blk_cell B2.out 1 _ rfl
  have z0 := blk_frozen B2.out 0
  have z1 := blk_frozen B2.out 1
  obtain ⟨kd, hkd⟩ : ∃ kd, x.getD j 0 = kd := ⟨_, rfl⟩
  rw [hkd] at hcell hk
  have HK : Hid (x[j]?.getD 0 = kd) := by unfold Hid; rw [← hkd]; rfl
  clear hkd
  go_wp2_with fail
  go_region
  all_goals go_wp2_with fail
  · refine bodyPost_ret (results_rec3 rfl (.inl rfl) _ _ rfl (blk_up (set2_blk B2.out _ _) (up_dr (Below.refl _ _)))) rfl ?_
    rw [HK.out]
    refine ⟨_, rfl, (HD0.out (by omega)).far (grown_trans (set2_grown _ _ _ _) (grown_up (up_dr (Below.refl _ _)) _)) (fun k hk e => ?_), U2.out.grown (grown_trans (set2_grown _ _ _ _) (grown_up (up_dr (Below.refl _ _)) _)) U2.out.size (fun k hk => ?_)⟩
    · simp [Value.ownBlock] at hk e; exact HNE.out (by omega)
    · simp at hk; omega
  · refine bodyPost_ret (results_rec3 rfl (.inl rfl) _ _ rfl (blk_up (set2_blk B2.out _ _) (up_dr (Below.refl _ _)))) rfl ?_
    rw [HK.out]
    refine ⟨_, rfl, HD.out.far (grown_trans (set2_grown _ _ _ _) (grown_up (up_dr (Below.refl _ _)) _)) (fun k hk e => ?_), U2.out.grown (grown_trans (set2_grown _ _ _ _) (grown_up (up_dr (Below.refl _ _)) _)) U2.out.size (fun k hk => ?_)⟩
    · simp [Value.ownBlock] at hk e; exact HNE.out (by omega)
    · simp at hk; omega
theorem bareOf_good {l x : List Int} (h : bareOf l = (x, 0)) : x.length + 4 = l.length ∧ x = l.take x.length := by
  unfold bareOf at h
  split at h
  · simp at h
  · split at h
    · simp at h
      subst h
      rw [List.length_take]
      refine ⟨by omega, ?_⟩
      rw [Nat.min_eq_left (by omega)]
    · simp at h
theorem fget_any (b : List Int) (v : Value) (w : World) (hv : Octs w v b) :
    Calls Tryz.prog 89 #[v] w fun e w' => ∃ vd, e = .returned (.tuple #[.agg #[.int .i64 (fget b).1, vd], .int .i64 (fget b).2.2.1, .int .i64 (fget b).2.2.2]) ∧ NewB w' w.heap.size vd (fget b).2.1 ∧ Below w.heap.size w w' := by
  have bad : ∀ e, fget b = (0, [], 0, e) → (Calls Tryz.prog 89 #[v] w fun e' w' => e' = .returned (.tuple #[.agg #[.int .i64 0, .slice none 0 0], .int .i64 0, .int .i64 e]) ∧ Below w.heap.size w w') →
      Calls Tryz.prog 89 #[v] w fun e w' => ∃ vd, e = .returned (.tuple #[.agg #[.int .i64 (fget b).1, vd], .int .i64 (fget b).2.2.1, .int .i64 (fget b).2.2.2]) ∧ NewB w' w.heap.size vd (fget b).2.1 ∧ Below w.heap.size w w' := by
    intro e he hc
    refine hc.mono ?_
    rintro e' w' ⟨rfl, hb⟩
    rw [he]
    exact ⟨_, rfl, NewB.nil _ _, hb⟩
  rcases get_says b hv.1 with hg | hg | ⟨n, j, hg, n0, n1, j1, jl, ho, j9⟩
  · exact bad 8 (fget_err (getRet_inj hg) (by decide)) (fget_err_any b 0 0 8 v w hv hg (by decide))
  · exact bad 4 (fget_err (getRet_inj hg) (by decide)) (fget_err_any b 0 0 4 v w hv hg (by decide))
  · have hG := getRet_inj hg
    by_cases h1 : 65536 < n
    · exact bad 5 (fget_long hG h1) (fget_long_any b n j v w hv hg h1)
    obtain ⟨m, rfl⟩ : ∃ m : Nat, n = (m : Int) := ⟨n.toNat, by omega⟩
    by_cases h2 : b.length < j + 1 + m + 4
    · exact bad 8 (fget_short hG h1 (by omega)) (fget_short_any b m j v w hv hg (by omega) j9 h2)
    have hm : ((j : Int) + 1 + (m : Int) + 4).toNat = j + 1 + m + 4 := by omega
    obtain ⟨x, f, hb⟩ : ∃ x f, bareOf (b.take (j + 1 + m + 4)) = (x, f) := ⟨_, _, rfl⟩
    by_cases hf : f = 0
    · subst hf
      obtain ⟨h3, h4⟩ := bareOf_good hb
      rw [List.length_take] at h3
      rw [fget_good hG h1 (by omega) hm hb]
      refine fget_good_any b m j v w hv hg (by omega) j9 h2 x hb (by omega) ?_
      intro y hy
      rw [h4] at hy
      exact hv.1 y (List.mem_of_mem_take (List.mem_of_mem_take hy))
    · exact bad f (fget_bad hG h1 (by omega) hm hb hf) (fget_bare_any b m j v w hv hg (by omega) j9 h2 x f hb hf)
end Go.Proofs.YtnchjlimkgbfpaaGreatDoor

namespace Go.Proofs.YtnchjlimkgbfpaaGreatDoor
open Go.RowKit SumPlain
set_option linter.unusedVariables false
set_option maxRecDepth 20000
theorem Octs.far {w w' : World} {v : Value} {l : List Int} {r : Option Nat} (h : Octs w v l) (hg : w.grownBy w' r) (hne : ∀ b, v.ownBlock = some b → l ≠ [] → some b ≠ r) : Octs w' v l :=
  h.moved fun b off x hn hv hc => hg.cell hc (hne b hv hn)
theorem Octs.lt {w : World} {v : Value} {l : List Int} (h : Octs w v l) (b : Nat) (hb : v.ownBlock = some b) (hn : l ≠ []) : b < w.heap.size := by
  obtain ⟨_, h⟩ := h
  rcases h with ⟨h0, _⟩ | ⟨_, b', off, cap, rfl, _, _, hj⟩
  · exact absurd h0 hn
  · simp [Value.ownBlock] at hb
    subst hb
    cases l with
    | nil => exact absurd rfl hn
    | cons x r => exact World.block_lt_of_cell? w ⟨b', off + 0, none⟩ (hj 0 x rfl)
end Go.Proofs.YtnchjlimkgbfpaaGreatDoor

namespace Go.Proofs.YtnchjlimkgbfpaaGreatDoor
open Go.RowKit
set_option linter.unusedVariables false
set_option maxRecDepth 20000
set_option linter.unusedSimpArgs false
def refS (c : Int) (s : List Int × Int) : List Int × Int := ([], if s.2 = 0 then c else s.2)
def codeS (l : List Int) : Int := if (getOf l).2.2 = 0 then (if 1099511627776 < (getOf l).1 then 1 else 0) else (getOf l).2.2
def numS (s : List Int × Int) : Int × (List Int × Int) := if codeS s.1 = 0 then ((getOf s.1).1, (s.1.drop (getOf s.1).2.1.toNat, s.2)) else (0, refS (codeS s.1) s)
def cntS (s : List Int × Int) : Int × (List Int × Int) := if 256 < (numS s).1 then (0, refS 3 (numS s).2) else numS s
def txtS (s : List Int × Int) : ByteArray × (List Int × Int) :=
  if 96 < (numS s).1 then (⟨#[]⟩, refS 1 (numS s).2) else if ((numS s).2.1.length : Int) < (numS s).1 then (⟨#[]⟩, refS 8 (numS s).2) else (strOfNums ((numS s).2.1.take (numS s).1.toNat), ((numS s).2.1.drop (numS s).1.toNat, (numS s).2.2))
def metS (s : List Int × Int) : Me × (List Int × Int) :=
  (⟨(numS s).1, (numS (numS s).2).1, (numS (numS (numS s).2).2).1, (txtS (numS (numS (numS s).2).2).2).1, (txtS (txtS (numS (numS (numS s).2).2).2).2).1⟩, (txtS (txtS (numS (numS (numS s).2).2).2).2).2)
def idsS : Nat → List Int × Int → List Int × (List Int × Int)
  | 0, s => ([], s)
  | n + 1, s => ((numS s).1 :: (idsS n (numS s).2).1, (idsS n (numS s).2).2)
def metsS : Nat → List Int × Int → List Me × (List Int × Int)
  | 0, s => ([], s)
  | n + 1, s => ((metS s).1 :: (metsS n (metS s).2).1, (metsS n (metS s).2).2)
structure Twin {A : Type} (f : List Int × Int → A × (List Int × Int)) (q : List Int → Except Int (A × List Int)) : Prop where
  good : ∀ l v r, q l = .ok (v, r) → f (l, 0) = (v, (r, 0))
  bad : ∀ l c, q l = .error c → (f (l, 0)).2 = ([], c) ∧ c ≠ 0
  stay : ∀ c, c ≠ 0 → (f ([], c)).2 = ([], c)
theorem codeS_nil : codeS [] ≠ 0 := by decide
theorem numQ_code (l : List Int) : numQ 1099511627776 1 l = if codeS l = 0 then .ok ((getOf l).1, l.drop (getOf l).2.1.toNat) else .error (codeS l) := by
  unfold numQ codeS
  by_cases h : (getOf l).2.2 = 0
  · rw [if_pos h, if_pos h]
    by_cases h2 : 1099511627776 < (getOf l).1
    · rw [if_pos h2, if_pos h2, if_neg (by decide)]
    · rw [if_neg h2, if_neg h2, if_pos rfl]
  · rw [if_neg h, if_neg h, if_neg h]
theorem numS_twin : Twin numS (numQ 1099511627776 1) where
  good l v r h := by
    rw [numQ_code] at h
    unfold numS
    split at h
    · rename_i q
      simp only [Except.ok.injEq, Prod.mk.injEq] at h
      simp only [q, if_true, h]
    · cases h
  bad l c h := by
    rw [numQ_code] at h
    unfold numS
    split at h
    · cases h
    · rename_i q
      simp only [Except.error.injEq] at h
      subst h
      simp only [q, if_false, refS, if_true]
      exact ⟨trivial, q⟩
  stay c hc := by
    unfold numS
    simp only [codeS_nil, if_false, refS, hc]
theorem cntS_twin : Twin cntS cntQ where
  good l v r h := by
    unfold cntQ at h
    cases e : numQ 1099511627776 1 l with
    | error c => rw [e] at h; cases h
    | ok w =>
      obtain ⟨n, q⟩ := w
      rw [e] at h
      have := numS_twin.good l n q e
      unfold cntS
      rw [this]
      simp only at h ⊢
      by_cases k : 256 < n
      · rw [if_pos k] at h; cases h
      · rw [if_neg k] at h
        rw [if_neg k]
        simp only [Except.ok.injEq, Prod.mk.injEq] at h
        rw [h.1, h.2]
  bad l c h := by
    unfold cntQ at h
    cases e : numQ 1099511627776 1 l with
    | error d =>
      rw [e] at h
      simp only [Except.error.injEq] at h
      subst h
      have := numS_twin.bad l d e
      unfold cntS
      by_cases k : 256 < (numS (l, 0)).1
      · rw [if_pos k]
        simp only [refS, this.1, this.2, if_false]
        exact ⟨trivial, this.2⟩
      · rw [if_neg k]; exact this
    | ok w =>
      obtain ⟨n, q⟩ := w
      rw [e] at h
      have := numS_twin.good l n q e
      unfold cntS
      rw [this]
      simp only at h ⊢
      by_cases k : 256 < n
      · rw [if_pos k] at h
        rw [if_pos k]
        simp only [Except.error.injEq] at h
        subst h
        simp only [refS, if_true]
        exact ⟨trivial, by decide⟩
      · rw [if_neg k] at h; cases h
  stay c hc := by
    unfold cntS
    have := numS_twin.stay c hc
    by_cases k : 256 < (numS ([], c)).1
    · rw [if_pos k]
      simp only [refS, this, hc, if_false]
    · rw [if_neg k]; exact this
theorem txtS_twin : Twin txtS txtP where
  good l v r h := by
    unfold txtP at h
    cases e : numQ 1099511627776 1 l with
    | error c => rw [e] at h; cases h
    | ok w =>
      obtain ⟨n, q⟩ := w
      rw [e] at h
      have := numS_twin.good l n q e
      unfold txtS
      rw [this]
      simp only at h ⊢
      by_cases k : 96 < n
      · rw [if_pos k] at h; cases h
      · rw [if_neg k] at h
        rw [if_neg k]
        by_cases k2 : (q.length : Int) < n
        · rw [if_pos k2] at h; cases h
        · rw [if_neg k2] at h
          rw [if_neg k2]
          simp only [Except.ok.injEq, Prod.mk.injEq] at h
          rw [h.1, h.2]
  bad l c h := by
    unfold txtP at h
    cases e : numQ 1099511627776 1 l with
    | error d =>
      rw [e] at h
      simp only [Except.error.injEq] at h
      subst h
      have := numS_twin.bad l d e
      unfold txtS
      by_cases k : 96 < (numS (l, 0)).1
      · rw [if_pos k]
        simp only [refS, this.1, this.2, if_false]
        exact ⟨trivial, this.2⟩
      · rw [if_neg k]
        by_cases k2 : ((numS (l, 0)).2.1.length : Int) < (numS (l, 0)).1
        · rw [if_pos k2]
          simp only [refS, this.1, this.2, if_false]
          exact ⟨trivial, this.2⟩
        · rw [if_neg k2]
          simp only [this.1, List.drop_nil]
          exact ⟨trivial, this.2⟩
    | ok w =>
      obtain ⟨n, q⟩ := w
      rw [e] at h
      have := numS_twin.good l n q e
      unfold txtS
      rw [this]
      simp only at h ⊢
      by_cases k : 96 < n
      · rw [if_pos k] at h
        rw [if_pos k]
        simp only [Except.error.injEq] at h
        subst h
        simp only [refS, if_true]
        exact ⟨trivial, by decide⟩
      · rw [if_neg k] at h
        rw [if_neg k]
        by_cases k2 : (q.length : Int) < n
        · rw [if_pos k2] at h
          rw [if_pos k2]
          simp only [Except.error.injEq] at h
          subst h
          simp only [refS, if_true]
          exact ⟨trivial, by decide⟩
        · rw [if_neg k2] at h; cases h
  stay c hc := by
    unfold txtS
    have := numS_twin.stay c hc
    by_cases k : 96 < (numS ([], c)).1
    · rw [if_pos k]
      simp only [refS, this, hc, if_false]
    · rw [if_neg k]
      by_cases k2 : ((numS ([], c)).2.1.length : Int) < (numS ([], c)).1
      · rw [if_pos k2]
        simp only [refS, this, hc, if_false]
      · rw [if_neg k2]
        simp only [this, List.drop_nil]
theorem Twin.at {A : Type} {f : List Int × Int → A × (List Int × Int)} {q : List Int → Except Int (A × List Int)} (t : Twin f q) (l : List Int) : (∃ v r, q l = .ok (v, r) ∧ f (l, 0) = (v, (r, 0))) ∨ (∃ c, q l = .error c ∧ (f (l, 0)).2 = ([], c) ∧ c ≠ 0) := by
  cases h : q l with
  | error c => exact .inr ⟨c, rfl, t.bad l c h⟩
  | ok w => obtain ⟨v, r⟩ := w; exact .inl ⟨v, r, rfl, t.good l v r h⟩
theorem metS_twin : Twin metS metP where
  good l v r h := by
    unfold metP at h
    rcases numS_twin.at l with ⟨i, l1, e1, s1⟩ | ⟨c, e1, _⟩
    case inr => rw [e1] at h; cases h
    rw [e1] at h
    rcases numS_twin.at l1 with ⟨j, l2, e2, s2⟩ | ⟨c, e2, _⟩
    case inr => simp only at h; rw [e2] at h; cases h
    simp only at h
    rw [e2] at h
    rcases numS_twin.at l2 with ⟨k, l3, e3, s3⟩ | ⟨c, e3, _⟩
    case inr => simp only at h; rw [e3] at h; cases h
    simp only at h
    rw [e3] at h
    rcases txtS_twin.at l3 with ⟨lo, l4, e4, s4⟩ | ⟨c, e4, _⟩
    case inr => simp only at h; rw [e4] at h; cases h
    simp only at h
    rw [e4] at h
    rcases txtS_twin.at l4 with ⟨hi, l5, e5, s5⟩ | ⟨c, e5, _⟩
    case inr => simp only at h; rw [e5] at h; cases h
    simp only at h
    rw [e5] at h
    simp only [Except.ok.injEq, Prod.mk.injEq] at h
    unfold metS
    simp only [s1, s2, s3, s4, s5]
    rw [h.1, h.2]
  bad l c h := by
    have st : ∀ d, d ≠ 0 → (txtS (txtS ([], d)).2).2 = ([], d) := fun d hd => by rw [txtS_twin.stay d hd, txtS_twin.stay d hd]
    unfold metP at h
    rcases numS_twin.at l with ⟨i, l1, e1, s1⟩ | ⟨d, e1, s1, hd⟩
    case inr =>
      rw [e1] at h
      simp only [Except.error.injEq] at h
      subst h
      unfold metS
      simp only [s1, numS_twin.stay d hd, st d hd]
      exact ⟨trivial, hd⟩
    rw [e1] at h
    simp only at h
    rcases numS_twin.at l1 with ⟨j, l2, e2, s2⟩ | ⟨d, e2, s2, hd⟩
    case inr =>
      rw [e2] at h
      simp only [Except.error.injEq] at h
      subst h
      unfold metS
      simp only [s1, s2, numS_twin.stay d hd, st d hd]
      exact ⟨trivial, hd⟩
    rw [e2] at h
    simp only at h
    rcases numS_twin.at l2 with ⟨k, l3, e3, s3⟩ | ⟨d, e3, s3, hd⟩
    case inr =>
      rw [e3] at h
      simp only [Except.error.injEq] at h
      subst h
      unfold metS
      simp only [s1, s2, s3, st d hd]
      exact ⟨trivial, hd⟩
    rw [e3] at h
    simp only at h
    rcases txtS_twin.at l3 with ⟨lo, l4, e4, s4⟩ | ⟨d, e4, s4, hd⟩
    case inr =>
      rw [e4] at h
      simp only [Except.error.injEq] at h
      subst h
      unfold metS
      simp only [s1, s2, s3, s4, txtS_twin.stay d hd]
      exact ⟨trivial, hd⟩
    rw [e4] at h
    simp only at h
    rcases txtS_twin.at l4 with ⟨hi, l5, e5, s5⟩ | ⟨d, e5, s5, hd⟩
    case inr =>
      rw [e5] at h
      simp only [Except.error.injEq] at h
      subst h
      unfold metS
      simp only [s1, s2, s3, s4, s5]
      exact ⟨trivial, hd⟩
    rw [e5] at h
    cases h
  stay c hc := by
    unfold metS
    simp only [numS_twin.stay c hc, txtS_twin.stay c hc]
theorem idsS_twin : ∀ n, Twin (idsS n) (idsP n)
  | 0 => ⟨fun l v r h => by simp only [idsP, Except.ok.injEq, Prod.mk.injEq] at h; rw [idsS, h.1, h.2], fun l c h => (by cases h), fun c hc => rfl⟩
  | n + 1 => by
    have t := idsS_twin n
    refine ⟨fun l v r h => ?_, fun l c h => ?_, fun c hc => ?_⟩
    · rw [idsP] at h
      rcases numS_twin.at l with ⟨i, l1, e1, s1⟩ | ⟨c, e1, _⟩
      case inr => rw [e1] at h; cases h
      rw [e1] at h
      simp only at h
      rcases t.at l1 with ⟨js, l2, e2, s2⟩ | ⟨c, e2, _⟩
      case inr => rw [e2] at h; cases h
      rw [e2] at h
      simp only [Except.ok.injEq, Prod.mk.injEq] at h
      rw [idsS]
      simp only [s1, s2]
      rw [h.1, h.2]
    · rw [idsP] at h
      rcases numS_twin.at l with ⟨i, l1, e1, s1⟩ | ⟨d, e1, s1, hd⟩
      case inr =>
        rw [e1] at h
        simp only [Except.error.injEq] at h
        subst h
        rw [idsS]
        simp only [s1, t.stay d hd]
        exact ⟨trivial, hd⟩
      rw [e1] at h
      simp only at h
      rcases t.at l1 with ⟨js, l2, e2, s2⟩ | ⟨d, e2, s2, hd⟩
      case inr =>
        rw [e2] at h
        simp only [Except.error.injEq] at h
        subst h
        rw [idsS]
        simp only [s1, s2]
        exact ⟨trivial, hd⟩
      rw [e2] at h
      cases h
    · rw [idsS]
      simp only [numS_twin.stay c hc, t.stay c hc]
theorem metsS_twin : ∀ n, Twin (metsS n) (metsP n)
  | 0 => ⟨fun l v r h => by simp only [metsP, Except.ok.injEq, Prod.mk.injEq] at h; rw [metsS, h.1, h.2], fun l c h => (by cases h), fun c hc => rfl⟩
  | n + 1 => by
    have t := metsS_twin n
    refine ⟨fun l v r h => ?_, fun l c h => ?_, fun c hc => ?_⟩
    · rw [metsP] at h
      rcases metS_twin.at l with ⟨i, l1, e1, s1⟩ | ⟨c, e1, _⟩
      case inr => rw [e1] at h; cases h
      rw [e1] at h
      simp only at h
      rcases t.at l1 with ⟨js, l2, e2, s2⟩ | ⟨c, e2, _⟩
      case inr => rw [e2] at h; cases h
      rw [e2] at h
      simp only [Except.ok.injEq, Prod.mk.injEq] at h
      rw [metsS]
      simp only [s1, s2]
      rw [h.1, h.2]
    · rw [metsP] at h
      rcases metS_twin.at l with ⟨i, l1, e1, s1⟩ | ⟨d, e1, s1, hd⟩
      case inr =>
        rw [e1] at h
        simp only [Except.error.injEq] at h
        subst h
        rw [metsS]
        simp only [s1, t.stay d hd]
        exact ⟨trivial, hd⟩
      rw [e1] at h
      simp only at h
      rcases t.at l1 with ⟨js, l2, e2, s2⟩ | ⟨d, e2, s2, hd⟩
      case inr =>
        rw [e2] at h
        simp only [Except.error.injEq] at h
        subst h
        rw [metsS]
        simp only [s1, s2]
        exact ⟨trivial, hd⟩
      rw [e2] at h
      cases h
    · rw [metsS]
      simp only [metS_twin.stay c hc, t.stay c hc]
end Go.Proofs.YtnchjlimkgbfpaaGreatDoor
