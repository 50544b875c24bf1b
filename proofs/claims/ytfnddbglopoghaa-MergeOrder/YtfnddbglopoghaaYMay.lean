/- The program's mayStand of layer 9: a version may stand if it can be put into a list without nodes. -/
import Derived.Test.YtfnddbglopoghaaPPut
namespace Go.Proofs.Ytfnddbglopoghaa
open Go.RowKit
set_option linter.unusedVariables false
set_option linter.unusedSimpArgs false

theorem hid {p : Prop} (h : p) : Hid p := h
theorem cellAl {w : World} {a : Addr} {x : Value} (h : w.cell? a = some x) (o : Obj) : (w.alloc o).cell? a = some x := by
  have := (up_alloc w o).cell (World.block_lt_of_cell? w a h)
  rw [this]
  exact h
/-- The box of x stands in the block N. -/
def BoxN (W : World) (N : Nat) (x : En) : Prop := W.heap[N]? = some (enObj x)
def noneO : Obj := .cells #[.slice none 0 0, .slice none 0 0] 79
theorem errP_empty (x : En) : errP emptyS x 1 = if mayE x then 0 else 1 := by
  unfold errP
  rw [(checkS_iff emptyS).2 emptyS_good]
  cases mayE x
  · rfl
  · rfl
theorem BoxN.up {W W' : World} {N : Nat} {x : En} (h : BoxN W N x) (hb : Below W.heap.size W W') : BoxN W' N x := blk_up h hb
theorem BoxN.cells {W : World} {N : Nat} {x : En} (h : BoxN W N x) : W.cell? ⟨N, 0, none⟩ = some (.string x.key) ∧ W.cell? ⟨N, 1, none⟩ = some (.int .i64 x.seq) ∧ W.cell? ⟨N, 2, none⟩ = some (.int .i64 x.kind) ∧ W.cell? ⟨N, 3, none⟩ = some (.string x.val) :=
  ⟨blk_cell h 0 _ rfl, blk_cell h 1 _ rfl, blk_cell h 2 _ rfl, blk_cell h 3 _ rfl⟩
/-- What New leaves. -/
def NewAt (W w' : World) (N : Nat) (x : En) (a : Option Addr) (c : Nat) (a2 : Option Addr) (c2 : Nat) : Prop := BoxN w' N x ∧ SkE w' (.slice a 0 c) (.slice a2 8 c2) emptyS [] ∧ Below W.heap.size W w'
theorem newC (x : En) (N : Nat) (W : World) (h : BoxN W N x) : Calls Try.prog 47 #[] W fun e w' => ∃ a c a2 c2, e = .returned (.agg #[.slice a 0 c, .slice a2 8 c2]) ∧ w'.cell? ⟨N, 0, none⟩ = some (.string x.key) ∧ w'.cell? ⟨N, 1, none⟩ = some (.int .i64 x.seq) ∧ w'.cell? ⟨N, 2, none⟩ = some (.int .i64 x.kind) ∧ w'.cell? ⟨N, 3, none⟩ = some (.string x.val) ∧ N ≠ w'.heap.size ∧ w'.heap.size ≠ N ∧ Hid (NewAt W w' N x a c a2 c2) := by
  refine (new_any W).mono ?_
  rintro e w' ⟨a, c, a2, c2, rfl, ho, hb⟩
  have hB := h.up hb.out
  obtain ⟨c0, c1, c3, c4⟩ := hB.cells
  have hlt : N < w'.heap.size := blk_lt hB
  exact ⟨a, c, a2, c2, rfl, c0, c1, c3, c4, by omega, by omega, hB, ho.out.read, hb.out⟩
theorem putC (x : En) (N : Nat) (W0 W : World) (a : Option Addr) (c : Nat) (a2 : Option Addr) (c2 : Nat) (h : NewAt W0 W N x a c a2 c2) : Calls Try.prog 46 #[.agg #[.slice a 0 c, .slice a2 8 c2], .agg #[.string x.key, .int .i64 x.seq, .int .i64 x.kind, .string x.val], .int .i64 1] W fun e w' => ∃ b n d b2 n2 d2, e = .returned (.tuple #[.agg #[.slice b n d, .slice b2 n2 d2], .int .i64 (if mayE x then 0 else 1)]) ∧ w'.cell? ⟨N, 0, none⟩ = some (.string x.key) ∧ w'.cell? ⟨N, 1, none⟩ = some (.int .i64 x.seq) ∧ w'.cell? ⟨N, 2, none⟩ = some (.int .i64 x.kind) ∧ w'.cell? ⟨N, 3, none⟩ = some (.string x.val) ∧ Hid (Below W0.heap.size W0 w') := by
  refine (putS_any emptyS [] _ _ x 1 W h.2.1).mono ?_
  rintro e w' ⟨vN, vH, t, es, rfl, ho, hb⟩
  obtain ⟨⟨b, d, rfl⟩, ⟨b2, d2, rfl⟩⟩ := ho.out.1.read.form
  obtain ⟨c0, c1, c3, c4⟩ := (h.1.up hb.out).cells
  exact ⟨b, _, d, b2, _, d2, by rw [errP_empty], c0, c1, c3, c4, up_trans h.2.2 hb.out⟩
theorem NewAt.al {W0 W : World} {N : Nat} {x : En} {a : Option Addr} {c : Nat} {a2 : Option Addr} {c2 : Nat} (h : NewAt W0 W N x a c a2 c2) (o : Obj) : NewAt W0 (W.alloc o) N x a c a2 c2 :=
  ⟨h.1.up (up_alloc _ _), h.2.1.up (up_alloc _ _), up_al h.2.2 _⟩
/-- The block T of the caller's stands through a call. -/
theorem none_up {W w' : World} {T : Nat} (hT : W.heap[T]? = some noneO) (hb : Below W.heap.size W w') : w'.cell? ⟨T, 0, none⟩ = some (.slice none 0 0) ∧ w'.cell? ⟨T, 1, none⟩ = some (.slice none 0 0) ∧ w'.frozen? ⟨T, 0, none⟩ = false ∧ w'.frozen? ⟨T, 1, none⟩ = false := by
  have h := blk_up hT hb
  exact ⟨blk_cell h 0 _ rfl, blk_cell h 1 _ rfl, blk_frozen h 0, blk_frozen h 1⟩

theorem newT (x : En) (N T : Nat) (W : World) (h : BoxN W N x) (hT : W.heap[T]? = some noneO) : Calls Try.prog 47 #[] W fun e w' => ∃ a c a2 c2, e = .returned (.agg #[.slice a 0 c, .slice a2 8 c2]) ∧ w'.cell? ⟨N, 0, none⟩ = some (.string x.key) ∧ w'.cell? ⟨N, 1, none⟩ = some (.int .i64 x.seq) ∧ w'.cell? ⟨N, 2, none⟩ = some (.int .i64 x.kind) ∧ w'.cell? ⟨N, 3, none⟩ = some (.string x.val) ∧ w'.cell? ⟨T, 0, none⟩ = some (.slice none 0 0) ∧ w'.cell? ⟨T, 1, none⟩ = some (.slice none 0 0) ∧ w'.frozen? ⟨T, 0, none⟩ = false ∧ w'.frozen? ⟨T, 1, none⟩ = false ∧ Hid (NewAt W w' N x a c a2 c2) ∧ Hid (w'.heap[T]? = some noneO) := by
  refine (newC x N W h).mono ?_
  rintro e w' ⟨a, c, a2, c2, rfl, c0, c1, c3, c4, _, _, hn⟩
  obtain ⟨t0, t1, f0, f1⟩ := none_up hT hn.out.2.2
  exact ⟨a, c, a2, c2, rfl, c0, c1, c3, c4, t0, t1, f0, f1, hn, blk_up hT hn.out.2.2⟩
theorem putT (x : En) (N T : Nat) (W0 W : World) (a : Option Addr) (c : Nat) (a2 : Option Addr) (c2 : Nat) (h : NewAt W0 W N x a c a2 c2) (hT : W.heap[T]? = some noneO) : Calls Try.prog 46 #[.agg #[.slice a 0 c, .slice a2 8 c2], .agg #[.string x.key, .int .i64 x.seq, .int .i64 x.kind, .string x.val], .int .i64 1] W fun e w' => ∃ b n d b2 n2 d2, e = .returned (.tuple #[.agg #[.slice b n d, .slice b2 n2 d2], .int .i64 (if mayE x then 0 else 1)]) ∧ w'.cell? ⟨N, 0, none⟩ = some (.string x.key) ∧ w'.cell? ⟨N, 1, none⟩ = some (.int .i64 x.seq) ∧ w'.cell? ⟨N, 2, none⟩ = some (.int .i64 x.kind) ∧ w'.cell? ⟨N, 3, none⟩ = some (.string x.val) ∧ w'.cell? ⟨T, 0, none⟩ = some (.slice none 0 0) ∧ w'.cell? ⟨T, 1, none⟩ = some (.slice none 0 0) ∧ w'.frozen? ⟨T, 0, none⟩ = false ∧ w'.frozen? ⟨T, 1, none⟩ = false ∧ Hid (Below W0.heap.size W0 w') := by
  refine (putS_any emptyS [] _ _ x 1 W h.2.1).mono ?_
  rintro e w' ⟨vN, vH, t, es, rfl, ho, hb⟩
  obtain ⟨⟨b, d, rfl⟩, ⟨b2, d2, rfl⟩⟩ := ho.out.1.read.form
  obtain ⟨c0, c1, c3, c4⟩ := (h.1.up hb.out).cells
  obtain ⟨t0, t1, f0, f1⟩ := none_up hT hb.out
  exact ⟨b, _, d, b2, _, d2, by rw [errP_empty], c0, c1, c3, c4, t0, t1, f0, f1, up_trans h.2.2 hb.out⟩

set_option maxHeartbeats 2000000 in
set_option maxRecDepth 100000 in
theorem mayP_any (x : En) (w : World) : Calls Try.prog 36 #[enV x] w fun e w' => e = .returned (.bool (mayE x)) ∧ Hid (Below w.heap.size w w') := by
  have hbox : BoxN (w.alloc (enObj x)) w.heap.size x := blk_new w _
  have HN1 := newC x w.heap.size (w.alloc (enObj x)).drew (hbox.up (up_drewN _ 1))
  have HN2 := newT x w.heap.size (w.heap.size + 1) ((w.alloc (enObj x)).alloc noneO).drew ((hbox.up (up_alloc _ _)).up (up_drewN _ 1)) (blk_up (by have := blk_new (w.alloc (enObj x)) noneO; simpa using this) (up_drewN _ 1))
  have HP := putC x w.heap.size
  have HP2 := putT x w.heap.size (w.heap.size + 1)
  have HP3 := fun (W0 W : World) (a : Option Addr) (c : Nat) (a2 : Option Addr) (c2 : Nat) (h : NewAt W0 W w.heap.size x a c a2 c2) => putT x w.heap.size W.heap.size W0 (W.alloc noneO) a c a2 c2 (h.al _) (blk_new _ _)
  have HU1 : Hid (Below w.heap.size w (w.alloc (enObj x)).drew) := up_trans (up_alloc _ _) (up_drewN _ 1)
  have HU2 : Hid (Below w.heap.size w ((w.alloc (enObj x)).alloc noneO).drew) := up_trans (up_al (up_alloc _ _) _) (up_drewN _ 1)
  generalize hq : (if mayE x then (0 : Int) else 1) = q at HP HP2 HP3
  have HQ : Hid ((if mayE x then (0 : Int) else 1) = q) := hq
  have hq2 : (q == 0) = mayE x := by rw [← hq]; cases mayE x <;> rfl
  clear hq hbox
  unfold enV
  unfold enObj at HN1 HN2 HU1 HU2
  unfold noneO at HN2 HP2 HP3 HU2
  replace HN1 := hid HN1
  replace HN2 := hid HN2
  replace HP := hid HP
  replace HP2 := hid HP2
  replace HP3 := hid HP3
  go_enter Try.func36, Try.ntmps36
  go_wp2_with fail
  go_region_held3 (fun w' => w'.cell? ⟨w.heap.size, 0, none⟩ = some (.string x.key) ∧ w'.cell? ⟨w.heap.size, 1, none⟩ = some (.int .i64 x.seq) ∧ w'.cell? ⟨w.heap.size, 2, none⟩ = some (.int .i64 x.kind) ∧ w'.cell? ⟨w.heap.size, 3, none⟩ = some (.string x.val)) (first | with_reducible exact ⟨y0, y1, y2, y3⟩ | exact ⟨cellAl y0 _, cellAl y1 _, cellAl y2 _, cellAl y3 _⟩ | (simp [go_sem]; done) | (simp [go_sem, y0, y1, y2, y3]; done) | (simp [go_sem, y0, y1, y2, y3, n1, n2]; done)) (first
    | (go_at_call 47; with_reducible refine HN1.out.mono ?_; rintro e w1 ⟨a, c, a2, c2, rfl, y0, y1, y2, y3, n1, n2, h1⟩)
    | (go_at_call 47; with_reducible refine HN2.out.mono ?_; rintro e w1 ⟨a, c, a2, c2, rfl, y0, y1, y2, y3, t0, t1, f0, f1, h1, hT⟩)
    | (go_at_call 46; with_reducible refine (HP2.out _ _ _ _ _ _ h1.out hT.out).mono ?_; rintro e w2 ⟨b, n, d, b2, n2, d2, rfl, y0, y1, y2, y3, t0, t1, f0, f1, h2⟩)
    | (go_at_call 46; with_reducible refine (HP.out _ _ _ _ _ _ h1.out).mono ?_; rintro e w2 ⟨b, n, d, b2, n2, d2, rfl, y0, y1, y2, y3, h2⟩)
    | (go_at_call 46; with_reducible refine (HP3.out _ _ _ _ _ _ h1.out).mono ?_; rintro e w2 ⟨b, n, d, b2, n2, d2, rfl, y0, y1, y2, y3, t0, t1, f0, f1, h2⟩))
  all_goals
    go_wp2_with fail
    go_ret
  · exact ⟨rfl, up_al (up_trans HU1.out h2.out) _⟩
  · have u := up_trans HU1.out h2.out
    have s1 := (up_trans HU1.out h1.out.2.2).size
    exact ⟨rfl, u.grown (set2_grown w2 w1.heap.size _ _) u.size (fun k hk => by injection hk with hk; rw [← hk]; omega)⟩
  · have u := up_trans HU2.out h2.out
    exact ⟨rfl, u.grown (set2_grown w2 (w.heap.size + 1) _ _) u.size (fun k hk => by injection hk with hk; rw [← hk]; omega)⟩
end Go.Proofs.Ytfnddbglopoghaa
