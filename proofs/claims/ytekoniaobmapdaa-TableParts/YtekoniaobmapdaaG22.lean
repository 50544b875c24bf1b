/- The texts YMay, TKeys, TFour, TRot, GPut, TBuild, TNum, GGet, in this order. -/
import Derived.Test.YtekoniaobmapdaaPPut
import Derived.Test.YtekoniaobmapdaaG14
import Derived.Test.YtekoniaobmapdaaG09
import Derived.Test.YtekoniaobmapdaaG11
import Derived.Lib.SlBytesConst

/- The program's mayStand of layer 9: a version may stand if it can be put into a list without nodes. -/
namespace Go.Proofs.Ytekoniaobmapdaa
open Go.RowKit
set_option linter.unusedVariables false
set_option linter.unusedSimpArgs false

theorem hid {p : Prop} (h : p) : Hid p := h
theorem cellAl {w : World} {a : Addr} {x : Value} (h : w.cell? a = some x) (o : Obj) : (w.alloc o).cell? a = some x := by
  have := (up_alloc w o).cell (World.block_lt_of_cell? w a h)
  rw [this]
  exact h
theorem idx70 (n0 n1 n2 n3 : Int) (w : World) : (Instr.index 117 (.agg #[.int .i64 n0, .int .i64 n1, .int .i64 n2, .int .i64 n3]) (.int .i64 0)).run Try.prog w = .ok (.int .i64 n0) w ∧ (Instr.index 117 (.agg #[.int .i64 n0, .int .i64 n1, .int .i64 n2, .int .i64 n3]) (.int .i64 1)).run Try.prog w = .ok (.int .i64 n1) w ∧ (Instr.index 117 (.agg #[.int .i64 n0, .int .i64 n1, .int .i64 n2, .int .i64 n3]) (.int .i64 2)).run Try.prog w = .ok (.int .i64 n2) w ∧ (Instr.index 117 (.agg #[.int .i64 n0, .int .i64 n1, .int .i64 n2, .int .i64 n3]) (.int .i64 3)).run Try.prog w = .ok (.int .i64 n3) w := ⟨by kernel_rfl, by kernel_rfl, by kernel_rfl, by kernel_rfl⟩
/-- The box of x stands in the block N. -/
def BoxN (W : World) (N : Nat) (x : En) : Prop := W.heap[N]? = some (enObj x)
def noneO : Obj := .cells #[.slice none 0 0, .slice none 0 0] 112
theorem errP_empty (x : En) : errP emptyS x 1 = if mayE x then 0 else 1 := by
  unfold errP
  rw [(checkS_iff emptyS).2 emptyS_good]
  cases mayE x
  · rfl
  · rfl
theorem BoxN.up {W W' : World} {N : Nat} {x : En} (h : BoxN W N x) (hb : Below W.heap.size W W') : BoxN W' N x := blk_up h hb
theorem BoxN.cells {W : World} {N : Nat} {x : En} (h : BoxN W N x) : W.cell? ⟨N, 0, none⟩ = some (.string x.key) ∧ W.cell? ⟨N, 1, none⟩ = some (.int .i64 x.seq) ∧ W.cell? ⟨N, 2, none⟩ = some (.int .i64 x.kind) ∧ W.cell? ⟨N, 3, none⟩ = some (.string x.val) :=
  ⟨blk_cell h 0 _ rfl, blk_cell h 1 _ rfl, blk_cell h 2 _ rfl, blk_cell h 3 _ rfl⟩
/-- What New leaves. -/
def NewAt (W w' : World) (N : Nat) (x : En) (a : Option Addr) (c : Nat) (a2 : Option Addr) (c2 : Nat) : Prop := BoxN w' N x ∧ SkE w' (.slice a 0 c) (.slice a2 8 c2) emptyS [] ∧ Below W.heap.size W w'
theorem newC (x : En) (N : Nat) (W : World) (h : BoxN W N x) : Calls Try.prog 61 #[] W fun e w' => ∃ a c a2 c2, e = .returned (.agg #[.slice a 0 c, .slice a2 8 c2]) ∧ w'.cell? ⟨N, 0, none⟩ = some (.string x.key) ∧ w'.cell? ⟨N, 1, none⟩ = some (.int .i64 x.seq) ∧ w'.cell? ⟨N, 2, none⟩ = some (.int .i64 x.kind) ∧ w'.cell? ⟨N, 3, none⟩ = some (.string x.val) ∧ N ≠ w'.heap.size ∧ w'.heap.size ≠ N ∧ Hid (NewAt W w' N x a c a2 c2) := by
  refine (new_any W).mono ?_
  rintro e w' ⟨a, c, a2, c2, rfl, ho, hb⟩
  have hB := h.up hb.out
  obtain ⟨c0, c1, c3, c4⟩ := hB.cells
  have hlt : N < w'.heap.size := blk_lt hB
  exact ⟨a, c, a2, c2, rfl, c0, c1, c3, c4, by omega, by omega, hB, ho.out.read, hb.out⟩
theorem putC (x : En) (N : Nat) (W0 W : World) (a : Option Addr) (c : Nat) (a2 : Option Addr) (c2 : Nat) (h : NewAt W0 W N x a c a2 c2) : Calls Try.prog 60 #[.agg #[.slice a 0 c, .slice a2 8 c2], .agg #[.string x.key, .int .i64 x.seq, .int .i64 x.kind, .string x.val], .int .i64 1] W fun e w' => ∃ b n d b2 n2 d2, e = .returned (.tuple #[.agg #[.slice b n d, .slice b2 n2 d2], .int .i64 (if mayE x then 0 else 1)]) ∧ w'.cell? ⟨N, 0, none⟩ = some (.string x.key) ∧ w'.cell? ⟨N, 1, none⟩ = some (.int .i64 x.seq) ∧ w'.cell? ⟨N, 2, none⟩ = some (.int .i64 x.kind) ∧ w'.cell? ⟨N, 3, none⟩ = some (.string x.val) ∧ Hid (Below W0.heap.size W0 w') := by
  refine (putS_any emptyS [] _ _ x 1 W h.2.1).mono ?_
  rintro e w' ⟨vN, vH, t, es, rfl, ho, hb⟩
  obtain ⟨⟨b, d, rfl⟩, ⟨b2, d2, rfl⟩⟩ := ho.out.1.read.form
  obtain ⟨c0, c1, c3, c4⟩ := (h.1.up hb.out).cells
  exact ⟨b, _, d, b2, _, d2, by rw [errP_empty], c0, c1, c3, c4, up_trans h.2.2 hb.out⟩
theorem NewAt.al {W0 W : World} {N : Nat} {x : En} {a : Option Addr} {c : Nat} {a2 : Option Addr} {c2 : Nat} (h : NewAt W0 W N x a c a2 c2) (o : Obj) : NewAt W0 (W.alloc o) N x a c a2 c2 :=
  ⟨h.1.up (up_alloc _ _), h.2.1.up (up_alloc _ _), up_al h.2.2 _⟩
/-- The block T of the caller's stands through a call. -/
theorem none_up {W w' : World} {T : Nat} (hT : W.heap[T]? = some noneO) (hb : Below W.heap.size W w') : w'.cell? ⟨T, 0, none⟩ = some (.slice none 0 0) ∧ w'.cell? ⟨T, 1, none⟩ = some (.slice none 0 0) ∧ w'.frozen? ⟨T, 0, none⟩ = false ∧ w'.frozen? ⟨T, 1, none⟩ = false := by
  have h := blk_up hT hb
  exact ⟨blk_cell h 0 _ rfl, blk_cell h 1 _ rfl, blk_frozen h 0, blk_frozen h 1⟩

theorem newT (x : En) (N T : Nat) (W : World) (h : BoxN W N x) (hT : W.heap[T]? = some noneO) : Calls Try.prog 61 #[] W fun e w' => ∃ a c a2 c2, e = .returned (.agg #[.slice a 0 c, .slice a2 8 c2]) ∧ w'.cell? ⟨N, 0, none⟩ = some (.string x.key) ∧ w'.cell? ⟨N, 1, none⟩ = some (.int .i64 x.seq) ∧ w'.cell? ⟨N, 2, none⟩ = some (.int .i64 x.kind) ∧ w'.cell? ⟨N, 3, none⟩ = some (.string x.val) ∧ w'.cell? ⟨T, 0, none⟩ = some (.slice none 0 0) ∧ w'.cell? ⟨T, 1, none⟩ = some (.slice none 0 0) ∧ w'.frozen? ⟨T, 0, none⟩ = false ∧ w'.frozen? ⟨T, 1, none⟩ = false ∧ Hid (NewAt W w' N x a c a2 c2) ∧ Hid (w'.heap[T]? = some noneO) := by
  refine (newC x N W h).mono ?_
  rintro e w' ⟨a, c, a2, c2, rfl, c0, c1, c3, c4, _, _, hn⟩
  obtain ⟨t0, t1, f0, f1⟩ := none_up hT hn.out.2.2
  exact ⟨a, c, a2, c2, rfl, c0, c1, c3, c4, t0, t1, f0, f1, hn, blk_up hT hn.out.2.2⟩
theorem putT (x : En) (N T : Nat) (W0 W : World) (a : Option Addr) (c : Nat) (a2 : Option Addr) (c2 : Nat) (h : NewAt W0 W N x a c a2 c2) (hT : W.heap[T]? = some noneO) : Calls Try.prog 60 #[.agg #[.slice a 0 c, .slice a2 8 c2], .agg #[.string x.key, .int .i64 x.seq, .int .i64 x.kind, .string x.val], .int .i64 1] W fun e w' => ∃ b n d b2 n2 d2, e = .returned (.tuple #[.agg #[.slice b n d, .slice b2 n2 d2], .int .i64 (if mayE x then 0 else 1)]) ∧ w'.cell? ⟨N, 0, none⟩ = some (.string x.key) ∧ w'.cell? ⟨N, 1, none⟩ = some (.int .i64 x.seq) ∧ w'.cell? ⟨N, 2, none⟩ = some (.int .i64 x.kind) ∧ w'.cell? ⟨N, 3, none⟩ = some (.string x.val) ∧ w'.cell? ⟨T, 0, none⟩ = some (.slice none 0 0) ∧ w'.cell? ⟨T, 1, none⟩ = some (.slice none 0 0) ∧ w'.frozen? ⟨T, 0, none⟩ = false ∧ w'.frozen? ⟨T, 1, none⟩ = false ∧ Hid (Below W0.heap.size W0 w') := by
  refine (putS_any emptyS [] _ _ x 1 W h.2.1).mono ?_
  rintro e w' ⟨vN, vH, t, es, rfl, ho, hb⟩
  obtain ⟨⟨b, d, rfl⟩, ⟨b2, d2, rfl⟩⟩ := ho.out.1.read.form
  obtain ⟨c0, c1, c3, c4⟩ := (h.1.up hb.out).cells
  obtain ⟨t0, t1, f0, f1⟩ := none_up hT hb.out
  exact ⟨b, _, d, b2, _, d2, by rw [errP_empty], c0, c1, c3, c4, t0, t1, f0, f1, up_trans h.2.2 hb.out⟩

set_option maxHeartbeats 2000000 in
set_option maxRecDepth 100000 in
theorem mayP_any (x : En) (w : World) : Calls Try.prog 49 #[enV x] w fun e w' => e = .returned (.bool (mayE x)) ∧ Hid (Below w.heap.size w w') := by
  have hbox : BoxN (w.alloc (enObj x)) w.heap.size x := blk_new w _
  have HN1 := newC x w.heap.size (w.alloc (enObj x)).drew (hbox.up (up_drewN _ 1))
  have HN2 := newT x w.heap.size (w.heap.size + 1) ((w.alloc (enObj x)).alloc noneO).drew ((hbox.up (up_alloc _ _)).up (up_drewN _ 1)) (blk_up (by have := blk_new (w.alloc (enObj x)) noneO; simpa using this) (up_drewN _ 1))
  have HP := putC x w.heap.size
  have HP2 := putT x w.heap.size (w.heap.size + 1)
  have HP3 := fun (W0 W : World) (a : Option Addr) (c : Nat) (a2 : Option Addr) (c2 : Nat) (h : NewAt W0 W w.heap.size x a c a2 c2) => putT x w.heap.size W.heap.size W0 (W.alloc noneO) a c a2 c2 (h.al _) (blk_new _ _)
  have HU1 : Hid (Below w.heap.size w (w.alloc (enObj x)).drew) := up_trans (up_alloc _ _) (up_drewN _ 1)
  have HU2 : Hid (Below w.heap.size w ((w.alloc (enObj x)).alloc noneO).drew) := up_trans (up_al (up_alloc _ _) _) (up_drewN _ 1)
  generalize hq : (if mayE x then (0 : Int) else 1) = q at HP HP2 HP3
  have HQ : Hid ((if mayE x then (0 : Int) else 1) = q) := hq
  have hq2 : (q == 0) = mayE x := by rw [← hq]; cases mayE x <;> rfl
  clear hq hbox
  unfold enV
  unfold enObj at HN1 HN2 HU1 HU2
  unfold noneO at HN2 HP2 HP3 HU2
  replace HN1 := hid HN1
  replace HN2 := hid HN2
  replace HP := hid HP
  replace HP2 := hid HP2
  replace HP3 := hid HP3
  go_enter Try.func49, Try.ntmps49
  go_wp2_with fail
  go_region_held3 (fun w' => w'.cell? ⟨w.heap.size, 0, none⟩ = some (.string x.key) ∧ w'.cell? ⟨w.heap.size, 1, none⟩ = some (.int .i64 x.seq) ∧ w'.cell? ⟨w.heap.size, 2, none⟩ = some (.int .i64 x.kind) ∧ w'.cell? ⟨w.heap.size, 3, none⟩ = some (.string x.val)) (first | with_reducible exact ⟨y0, y1, y2, y3⟩ | exact ⟨cellAl y0 _, cellAl y1 _, cellAl y2 _, cellAl y3 _⟩ | (simp [go_sem]; done) | (simp [go_sem, y0, y1, y2, y3]; done) | (simp [go_sem, y0, y1, y2, y3, n1, n2]; done)) (first
    | (go_at_call 61; with_reducible refine HN1.out.mono ?_; rintro e w1 ⟨a, c, a2, c2, rfl, y0, y1, y2, y3, n1, n2, h1⟩)
    | (go_at_call 61; with_reducible refine HN2.out.mono ?_; rintro e w1 ⟨a, c, a2, c2, rfl, y0, y1, y2, y3, t0, t1, f0, f1, h1, hT⟩)
    | (go_at_call 60; with_reducible refine (HP2.out _ _ _ _ _ _ h1.out hT.out).mono ?_; rintro e w2 ⟨b, n, d, b2, n2, d2, rfl, y0, y1, y2, y3, t0, t1, f0, f1, h2⟩)
    | (go_at_call 60; with_reducible refine (HP.out _ _ _ _ _ _ h1.out).mono ?_; rintro e w2 ⟨b, n, d, b2, n2, d2, rfl, y0, y1, y2, y3, h2⟩)
    | (go_at_call 60; with_reducible refine (HP3.out _ _ _ _ _ _ h1.out).mono ?_; rintro e w2 ⟨b, n, d, b2, n2, d2, rfl, y0, y1, y2, y3, t0, t1, f0, f1, h2⟩))
  all_goals
    go_wp2_with fail
    go_ret
  · exact ⟨rfl, up_al (up_trans HU1.out h2.out) _⟩
  · have u := up_trans HU1.out h2.out
    have s1 := (up_trans HU1.out h1.out.2.2).size
    exact ⟨rfl, u.grown (set2_grown w2 w1.heap.size _ _) u.size (fun k hk => by injection hk with hk; rw [← hk]; omega)⟩
  · have u := up_trans HU2.out h2.out
    exact ⟨rfl, u.grown (set2_grown w2 (w.heap.size + 1) _ _) u.size (fun k hk => by injection hk with hk; rw [← hk]; omega)⟩
end Go.Proofs.Ytekoniaobmapdaa

/- The document's Keys and four of layer 10. -/
namespace Go.Proofs.Ytekoniaobmapdaa
open Go.RowKit SumPlain
set_option linter.unusedVariables false
set_option linter.unusedSimpArgs false

def lastKT : Option (List Int) → List En → Option (List Int)
  | p, [] => p
  | _, x :: r => lastKT (some (nums x.key)) r
theorem keysT_snoc : ∀ (l : List En) (p : Option (List Int)) (x : En), keysT p (l ++ [x]) = keysT p l ++ cond (sameKT (lastKT p l) (nums x.key)) [] [nums x.key]
  | [], p, x => by simp [keysT, lastKT]
  | y :: r, p, x => by
    simp only [List.cons_append, keysT, lastKT]
    rw [keysT_snoc r (some (nums y.key)) x, List.append_assoc]
theorem lastKT_take (l : List En) : ∀ (k : Nat) (y : En) (p : Option (List Int)), l[k]? = some y → lastKT p (l.take (k + 1)) = some (nums y.key) := by
  induction l with
  | nil => intro k y p h; simp at h
  | cons z r ih =>
    intro k y p h
    cases k with
    | zero => simp at h; subst h; simp [lastKT]
    | succ k =>
      simp at h
      rw [List.take_succ_cons, lastKT]
      exact ih k y _ h
theorem keysT_len : ∀ (l : List En) (p : Option (List Int)), (keysT p l).length ≤ l.length
  | [], p => by simp [keysT]
  | x :: r, p => by
    have := keysT_len r (some (nums x.key))
    simp only [keysT, List.length_append, List.length_cons]
    cases sameKT p (nums x.key) <;> simp <;> omega
theorem keysT_oct : ∀ (l : List En) (p : Option (List Int)), ∀ s ∈ keysT p l, ∃ x ∈ l, s = nums x.key
  | [], p, s, h => by simp [keysT] at h
  | x :: r, p, s, h => by
    rw [keysT] at h
    rcases List.mem_append.1 h with q | q
    · cases hs : sameKT p (nums x.key) with
      | true => rw [hs] at q; cases q
      | false => rw [hs] at q; simp at q; exact ⟨x, by simp, q⟩
    · obtain ⟨y, hy, e⟩ := keysT_oct r _ s q
      exact ⟨y, by simp [hy], e⟩
theorem nums_eq_iff (a b : ByteArray) : nums a = nums b ↔ a.toList = b.toList := by
  constructor
  · intro h
    have := congrArg strOfNums h
    rw [str_nums, str_nums] at this
    rw [this]
  · intro h
    have e : a.data.toList = b.data.toList := by simpa [ByteArray.toList_eq] using h
    unfold nums
    rw [e]
theorem srow_one (s : List Int) : ∀ r ∈ [srow s], ∀ u ∈ r, u.oneCell' = true := by
  intro r hr u hu
  simp at hr
  subst hr
  simp [srow] at hu
  subst hu
  rfl
theorem Try.info9 : (Try.prog.info? 9).map (fun i => (i.zero, i.size, i.bytes)) = some (some (.string ⟨#[]⟩), 1, 16) := by kernel_rfl

end Go.Proofs.Ytekoniaobmapdaa

/- The document's four of layer 10; versions cut out of a slice. -/
namespace Go.Proofs.Ytekoniaobmapdaa
open Go.RowKit SumPlain
set_option linter.unusedVariables false
set_option linter.unusedSimpArgs false

theorem OwnR.octs4 (w : World) (l : List Int) (hl : l.length = 4) : OwnB (w.alloc (.cells (l.map (Value.int .u8)).toArray 5)) w.heap.size (.slice (some ⟨w.heap.size, 0, none⟩) 4 4) l := by
  unfold OwnB
  rw [hl]
  have := World.ownsRow_lit (base := w.heap.size) (e := 5) (size := 1) w (l.map (Value.int .u8)).toArray 4 (Nat.le_refl _) (by unfold maxLen; omega) (by simp [hl])
  simpa using this
theorem ents_mid {W : World} {b off c : Nat} {l : List En} (h : EntsR W (.slice (some ⟨b, off, none⟩) l.length c) l) (p q : Nat) (hp : p ≤ q) (hq : q ≤ l.length) (hlt : p < l.length) : EntsR W (.slice (if c = p then some ⟨b, off, none⟩ else some ⟨b, off + p * 4, none⟩) (q - p) (c - p)) ((l.drop p).take (q - p)) := by
  obtain ⟨a0, c0, e, hc, hm⟩ := h.len
  simp only [Value.slice.injEq] at e
  have hcc : l.length ≤ c := by rw [e.2.2]; exact hc
  clear e hc hm a0 c0
  rw [if_neg (by omega)]
  obtain ⟨h1, a, cap, e, h2, h3, h4, h5⟩ := h
  simp only [Value.slice.injEq, List.length_map] at e
  obtain ⟨rfl, _, rfl⟩ := e
  obtain ⟨b', off', e2, hcell⟩ := h5 (by intro e0; rw [List.map_eq_nil_iff] at e0; rw [e0] at hlt; simp at hlt)
  simp only [Option.some.injEq, Addr.mk.injEq] at e2
  obtain ⟨rfl, rfl, _⟩ := e2
  refine ⟨?_, some ⟨b, off + p * 4, none⟩, c - p, ?_, ?_, by omega, (fun q => by cases q), ?_⟩
  · intro cs hcs
    obtain ⟨x, _, rfl⟩ := List.mem_map.1 hcs
    rfl
  · simp; omega
  · simp; omega
  · intro _
    refine ⟨b, off + p * 4, rfl, fun j cs hj i u hi => ?_⟩
    rw [List.getElem?_map] at hj
    cases hx : ((l.drop p).take (q - p))[j]? with
    | none => rw [hx] at hj; simp at hj
    | some y =>
      rw [hx] at hj
      simp at hj
      subst hj
      have hy : l[p + j]? = some y := by
        rw [List.getElem?_take] at hx
        split at hx
        · rw [List.getElem?_drop] at hx; exact hx
        · cases hx
      have := hcell (p + j) (enRow y) (by rw [List.getElem?_map, hy]; rfl) i u hi
      rw [show off + p * 4 + j * 4 + i = off + (p + j) * 4 + i by omega]
      exact this
end Go.Proofs.Ytekoniaobmapdaa

/- A table with one octet that is another one. -/
namespace Go.Proofs.Ytekoniaobmapdaa
open Go.RowKit SumPlain
set_option linter.unusedVariables false

/-- The octet at p, with bits turned. -/
def turnL (b : List Int) (p : Nat) (z : Int) : List Int := b.set p (bits .xor .u8 (b.getD p 0) z)
theorem turn_len (b : List Int) (p : Nat) (z : Int) : (turnL b p z).length = b.length := by unfold turnL; simp
theorem turn_left (a r : List Int) (p : Nat) (z : Int) (h : p < a.length) : turnL (a ++ r) p z = turnL a p z ++ r := by
  unfold turnL
  rw [List.set_append_left _ _ h]
  congr 2
  simp only [List.getD_eq_getElem?_getD, List.getElem?_append_left h]
theorem turn_right (a r : List Int) (q : Nat) (z : Int) : turnL (a ++ r) (a.length + q) z = a ++ turnL r q z := by
  unfold turnL
  rw [List.set_append_right _ _ (by omega)]
  congr 2
  · omega
  · simp only [List.getD_eq_getElem?_getD, List.getElem?_append_right (show a.length ≤ a.length + q by omega), Nat.add_sub_cancel_left]
theorem turn_guard {u v : List Int} {p : Nat} {z : Int} (hu : ∀ x ∈ guardOf u, 0 ≤ x ∧ x ≤ 255) (hp : p < (guardOf u).length) (z1 : 1 ≤ z) (z2 : z ≤ 255) : turnL (guardOf u) p z ≠ guardOf v := by
  intro e
  have h1 := rot_bare u hu p hp z z1 z2
  have h2 : bareOf (guardOf v) = (v, 0) := bare_guard v
  unfold turnL at e
  rw [e, h2] at h1
  simp at h1
theorem toldT_rot (l : List En) (hl : ordE none l = 0) (hn : l.length ≤ 4096) (z : Int) (z1 : 1 ≤ z) (z2 : z ≤ 255) : ∀ (n j : Nat) (f : Nat) (rest : List Int) (p : Nat), (∀ i, i < j + n → 16 * i < l.length) → n < f → (blkT l j).length ≤ p → p < (blkT l (j + n)).length →
    toldT f (turnL (blkT l (j + n)) p z ++ rest) (blkT l (j + n)).length (idxR l j n) (blkT l j).length (l.take (16 * j)) = []
  | 0, j, f, rest, p, _, _, h1, h2 => by
    rw [Nat.add_zero] at h2
    omega
  | n + 1, j, f, rest, p, hi, hf, h1, h2 => by
    obtain ⟨g, rfl⟩ : ∃ g, f = g + 1 := ⟨f - 1, by omega⟩
    have hj := hi j (by omega)
    have hc := chunk_chk hl hj
    have hlen := encB_len' (chunkT l j)
    have hfl := firstT_len hc
    obtain ⟨more, hm⟩ := blkT_more l (j + 1) n
    have hb : blkT l (j + (n + 1)) = blkT l j ++ ((encB (chunkT l j)).1 ++ more) := by
      rw [show j + (n + 1) = j + 1 + n by omega, hm, blkT_succ, List.append_assoc]
    have hx : idxR l j (n + 1) = octets ((encB (chunkT l j)).1.length : Int) ++ (octets ((firstT (chunkT l j)).length : Int) ++ (firstT (chunkT l j) ++ idxR l (j + 1) n)) := by
      rw [idxR_succ]; unfold idxE; simp
    have hne : idxR l j (n + 1) ≠ [] := by rw [idxR_succ]; exact idxE_ne _ _
    have g1 := getOf_octets ((encB (chunkT l j)).1.length : Int) (by omega) (by omega) (octets ((firstT (chunkT l j)).length : Int) ++ (firstT (chunkT l j) ++ idxR l (j + 1) n))
    have g2 := getOf_octets ((firstT (chunkT l j)).length : Int) (by omega) (by omega) (firstT (chunkT l j) ++ idxR l (j + 1) n)
    have hlb : (blkT l (j + (n + 1))).length = (blkT l j).length + ((encB (chunkT l j)).1.length + more.length) := by rw [hb]; simp
    have hpos : (blkT l (j + 1)).length = (blkT l j).length + (encB (chunkT l j)).1.length := by rw [blkT_succ]; simp
    have hdr : (octets ((encB (chunkT l j)).1.length : Int) ++ (octets ((firstT (chunkT l j)).length : Int) ++ (firstT (chunkT l j) ++ idxR l (j + 1) n))).drop ((octets ((encB (chunkT l j)).1.length : Int)).length + ((octets ((firstT (chunkT l j)).length : Int)).length + (firstT (chunkT l j)).length)) = idxR l (j + 1) n := by
      rw [← List.drop_drop, List.drop_left, ← List.drop_drop, List.drop_left, List.drop_left]
    rw [toldT, if_neg (by
      rintro (h | h)
      · exact hne h
      · simp at h; omega)]
    rw [hx, g1]
    simp only [Int.toNat_natCast]
    rw [if_neg (by
      rintro (h | h)
      · exact h rfl
      · rw [hlb] at h; omega)]
    rw [List.drop_left, g2]
    simp only [Int.toNat_natCast]
    rw [if_neg (by
      rintro (h | h)
      · exact h rfl
      · simp at h; omega)]
    by_cases hp : p < (blkT l j).length + (encB (chunkT l j)).1.length
    · obtain ⟨q, rfl⟩ : ∃ q, p = (blkT l j).length + q := ⟨p - (blkT l j).length, by omega⟩
      have hd : ((turnL (blkT l (j + (n + 1))) ((blkT l j).length + q) z ++ rest).drop (blkT l j).length).take (encB (chunkT l j)).1.length = turnL (encB (chunkT l j)).1 q z := by
        rw [hb, turn_right, turn_left _ _ _ _ (by omega), List.append_assoc, List.drop_left, List.append_assoc, List.take_left' (turn_len _ _ _)]
      rw [hd]
      have hr := rot_dec (chunkT l j) hc (encB_oct _) q (by omega) z z1 z2
      unfold turnL
      rw [hr]
      simp
    · have IH := toldT_rot l hl hn z z1 z2 n (j + 1) g rest p (fun i h => hi i (by omega)) (by omega) (by omega) (by rw [show j + 1 + n = j + (n + 1) by omega]; exact h2)
      rw [show j + 1 + n = j + (n + 1) by omega] at IH
      have htk : l.take (16 * (j + 1)) = l.take (16 * j) ++ chunkT l j := by
        unfold chunkT; rw [← List.take_add, show 16 * j + 16 = 16 * (j + 1) by omega]
      rw [hpos, htk] at IH
      obtain ⟨q, rfl⟩ : ∃ q, p = (blkT l j ++ (encB (chunkT l j)).1).length + q := ⟨p - (blkT l j ++ (encB (chunkT l j)).1).length, by simp; omega⟩
      have hd : ((turnL (blkT l (j + (n + 1))) ((blkT l j ++ (encB (chunkT l j)).1).length + q) z ++ rest).drop (blkT l j).length).take (encB (chunkT l j)).1.length = (encB (chunkT l j)).1 := by
        rw [hb, ← List.append_assoc, turn_right, List.append_assoc, List.append_assoc, List.drop_left, List.take_left]
      rw [hd, dec_encB hc]
      simp only
      rw [if_neg (by simp), hdr]
      exact IH
theorem foot_inj {a t n a' t' n' : Nat} (h : footO a t n = footO a' t' n') (ha : a < 4294967296) (ht : t < 4294967296) (ha' : a' < 4294967296) (ht' : t' < 4294967296) : a = a' ∧ t = t' := by
  have h1 := congrArg bareOf h
  rw [foot_bare, foot_bare] at h1
  simp only [Prod.mk.injEq, and_true] at h1
  have h2 := congrArg (fun l => numL (l.drop 4)) h1
  have h3 := congrArg (fun l => numL (l.drop 8)) h1
  have e4 : ∀ a t n, ([116, 107, 116, 98] ++ (fourL a ++ (fourL t ++ fourL n))).drop 4 = fourL a ++ (fourL t ++ fourL n) := fun a t n => rfl
  have e8 : ∀ a t n, ([116, 107, 116, 98] ++ (fourL a ++ (fourL t ++ fourL n))).drop 8 = fourL t ++ fourL n := fun a t n => rfl
  simp only [e4, e8] at h2 h3
  rw [num_four _ ha, num_four _ ha'] at h2
  rw [num_four _ ht, num_four _ ht'] at h3
  exact ⟨h2, h3⟩
theorem buildB_ok {l : List En} {b : List Int} (h : buildB l = (b, 0)) : chkT l = 0 ∧ tabO l = b := by
  unfold buildB at h
  by_cases hc : chkT l = 0
  · rw [if_pos hc] at h
    simp only [Prod.mk.injEq, and_true] at h
    exact ⟨hc, h⟩
  · rw [if_neg hc] at h
    simp only [Prod.mk.injEq] at h
    exact absurd h.2 hc
theorem frame_oct (k : Int) (l : List Int) (hk : 0 ≤ k ∧ k ≤ 255) (hl : ∀ x ∈ l, 0 ≤ x ∧ x ≤ 255) (hn : l.length ≤ 65536) : ∀ x ∈ frameOf k l, 0 ≤ x ∧ x ≤ 255 := by
  refine guard_octet _ ?_
  intro x hx
  rcases List.mem_append.1 hx with q | q
  · exact (octets_form (l.length : Int) (by omega) (by omega)).octet x q
  · rcases List.mem_cons.1 q with rfl | q
    · exact hk
    · exact hl x q

theorem foot_app (X T : List Int) (h : T.length = 20) : footL (X ++ T) = T := by
  unfold footL
  rw [List.length_append, h, Nat.add_sub_cancel, List.drop_left]
theorem idxE_oct {c : List En} (h : chkB c = 0) : ∀ x ∈ idxE c, 0 ≤ x ∧ x ≤ 255 := by
  intro x hx
  unfold idxE at hx
  have hl := encB_len' c
  have hf := firstT_len h
  rcases List.mem_append.1 hx with q | q
  · exact (octets_form ((encB c).1.length : Int) (by omega) (by omega)).octet x q
  · rcases List.mem_append.1 q with q | q
    · exact (octets_form ((firstT c).length : Int) (by omega) (by omega)).octet x q
    · unfold firstT at q
      cases c with
      | nil => cases q
      | cons y r => exact nums_octet y.key x q
theorem idxT_oct {l : List En} (h : chkT l = 0) : ∀ x ∈ idxT l (manyT l), 0 ≤ x ∧ x ≤ 255 := by
  obtain ⟨h1, h2, h3⟩ := chkT_ok h
  intro x hx
  unfold idxT at hx
  obtain ⟨j, hj, q⟩ := List.mem_flatMap.1 hx
  exact idxE_oct (chunk_chk h3 (many_le.1 j (List.mem_range.1 hj))) x q
theorem keysT_len' : ∀ (l : List En) (p : Option (List Int)), (keysT p l).length ≤ l.length
  | [], p => by simp [keysT]
  | x :: r, p => by
    have := keysT_len' r (some (nums x.key))
    simp only [keysT, List.length_append, List.length_cons]
    cases sameKT p (nums x.key) <;> simp <;> omega
theorem fil_may {l : List En} (h : chkT l = 0) : mayB (filT l).1 (filT l).2.length = true ∧ encL (filT l).1 (filT l).2 = (filT l).1 :: (filT l).2 ∧ OctL (filT l).2 ∧ 1 ≤ (filT l).1 ∧ (filT l).1 ≤ 8 ∧ (filT l).2.length ≤ 8192 := by
  obtain ⟨h1, h2, h3⟩ := chkT_ok h
  have hk := keysT_len' l none
  have he : errM 10 (keysT none l).length = 0 := by unfold errM; rw [if_neg (by decide), if_neg (by omega)]
  have hm := (make_may he).1
  have hle := may_le hm
  refine ⟨hm, ?_, makeR_oct _ _, hle.1, hle.2.1, hle.2.2.2⟩
  unfold encL
  rw [show mayB (filT l).1 (filT l).2.length = true from hm]
  rfl
theorem fr2_oct {l : List En} (h : chkT l = 0) : ∀ x ∈ fr2 l, 0 ≤ x ∧ x ≤ 255 := by
  have := (fr2_len h).2
  exact frame_oct 2 _ (by decide) (idxT_oct h) (by omega)
theorem fr3_oct {l : List En} (h : chkT l = 0) : (∀ x ∈ fr3 l, 0 ≤ x ∧ x ≤ 255) ∧ (encL (filT l).1 (filT l).2).length ≤ 8193 := by
  obtain ⟨_, he, ho, k1, k2, kl⟩ := fil_may h
  have hl : (encL (filT l).1 (filT l).2).length ≤ 8193 := by rw [he]; simp; omega
  refine ⟨frame_oct 3 _ (by decide) ?_ (by omega), hl⟩
  rw [he]
  intro x hx
  rcases List.mem_cons.1 hx with rfl | q
  · omega
  · exact ho x q
theorem foot_oct (a t n : Nat) : ∀ x ∈ footO a t n, 0 ≤ x ∧ x ≤ 255 := by
  refine guard_octet _ ?_
  intro x hx
  rcases List.mem_append.1 hx with q | q
  · simp at q; omega
  · rcases List.mem_append.1 q with q | q
    · exact four_oct a x q
    · rcases List.mem_append.1 q with q | q
      · exact four_oct t x q
      · exact four_oct n x q
theorem blkT_oct (l : List En) (m : Nat) : ∀ x ∈ blkT l m, 0 ≤ x ∧ x ≤ 255 := by
  intro x hx
  unfold blkT at hx
  obtain ⟨j, _, q⟩ := List.mem_flatMap.1 hx
  exact encB_oct _ x q
theorem tab_oct {l : List En} (h : chkT l = 0) : ∀ x ∈ tabO l, 0 ≤ x ∧ x ≤ 255 := by
  intro x hx
  unfold tabO at hx
  rcases List.mem_append.1 hx with q | q
  · exact blkT_oct l _ x q
  · rcases List.mem_append.1 q with q | q
    · exact fr2_oct h x q
    · rcases List.mem_append.1 q with q | q
      · exact (fr3_oct h).1 x q
      · exact foot_oct _ _ _ x q
/-- A table's parts by its foot. -/
theorem tab_parts {l l' : List En} {b : List Int} (h : chkT l = 0) (h' : chkT l' = 0) (hb : tabO l' = b) (hf : footL b = footO (atT l) (toT l) l.length) : atT l' = atT l ∧ toT l' = toT l ∧ (b.drop (atT l)).take (toT l - atT l) = fr2 l' ∧ (b.drop (toT l)).take (b.length - 20 - toT l) = fr3 l' := by
  have a1 := at_len h
  have a2 := at_len h'
  have e : footO (atT l') (toT l') l'.length = footO (atT l) (toT l) l.length := by rw [← foot_tab, hb, hf]
  obtain ⟨ea, et⟩ := foot_inj e (by omega) (by omega) (by omega) (by omega)
  have hto : toT l' = atT l' + (fr2 l').length := rfl
  have hat : atT l' = (blkT l' (manyT l')).length := rfl
  refine ⟨ea, et, ?_, ?_⟩
  · rw [← ea, ← et, ← hb]
    unfold tabO
    rw [show toT l' - atT l' = (fr2 l').length by omega, show (blkT l' (manyT l') ++ (fr2 l' ++ (fr3 l' ++ footO (atT l') (toT l') l'.length))).drop (atT l') = fr2 l' ++ (fr3 l' ++ footO (atT l') (toT l') l'.length) from List.drop_left, List.take_left]
  · have hl : b.length = toT l' + (fr3 l').length + 20 := by
      rw [← hb, hto, hat]
      unfold tabO
      simp [foot_len]
      omega
    rw [← et, hl, show toT l' + (fr3 l').length + 20 - 20 - toT l' = (fr3 l').length by omega, ← hb]
    have hd : (tabO l').drop (toT l') = fr3 l' ++ footO (atT l') (toT l') l'.length := by
      unfold tabO
      rw [← List.append_assoc, hto, hat, ← List.length_append, List.drop_left]
    rw [hd, List.take_left]
theorem rot_tab {l : List En} (h : chkT l = 0) {p : Nat} (hp : p < (tabO l).length) {z : Int} (z1 : 1 ≤ z) (z2 : z ≤ 255) : openB (turnL (tabO l) p z) = ([], (0, []), 21) := by
  obtain ⟨h1, h2, h3⟩ := chkT_ok h
  have hfl := foot_len (atT l) (toT l) l.length
  have hal := at_len h
  have hto : toT l = atT l + (fr2 l).length := rfl
  have hat : atT l = (blkT l (manyT l)).length := rfl
  have hlen : (tabO l).length = (blkT l (manyT l)).length + ((fr2 l).length + ((fr3 l).length + 20)) := by unfold tabO; simp [foot_len]
  have htl := turn_len (tabO l) p z
  by_cases hA : (blkT l (manyT l) ++ (fr2 l ++ fr3 l)).length ≤ p
  · obtain ⟨q, rfl⟩ : ∃ q, p = (blkT l (manyT l) ++ (fr2 l ++ fr3 l)).length + q := ⟨p - (blkT l (manyT l) ++ (fr2 l ++ fr3 l)).length, by omega⟩
    have hq : q < 20 := by simp at hp hlen; omega
    have et : tabO l = (blkT l (manyT l) ++ (fr2 l ++ fr3 l)) ++ footO (atT l) (toT l) l.length := by unfold tabO; simp
    have ef : footL (turnL (tabO l) ((blkT l (manyT l) ++ (fr2 l ++ fr3 l)).length + q) z) = turnL (footO (atT l) (toT l) l.length) q z := by
      rw [et, turn_right, foot_app _ _ (by rw [turn_len]; exact hfl)]
    have hbare : bareOf (turnL (footO (atT l) (toT l) l.length) q z) = ([], 21) := rot_bare _ (foot_oct _ _ _) q (by have := hfl; unfold footO at this; omega) z z1 z2
    unfold openB
    rw [if_neg (by rw [htl, hlen]; omega), ef, hbare]
    simp
  · have hA' : p < (blkT l (manyT l) ++ (fr2 l ++ fr3 l)).length := by omega
    have et : tabO l = (blkT l (manyT l) ++ (fr2 l ++ fr3 l)) ++ footO (atT l) (toT l) l.length := by unfold tabO; simp
    have eb : turnL (tabO l) p z = turnL (blkT l (manyT l) ++ (fr2 l ++ fr3 l)) p z ++ footO (atT l) (toT l) l.length := by rw [et, turn_left _ _ _ _ hA']
    have ef : footL (turnL (tabO l) p z) = footO (atT l) (toT l) l.length := by rw [eb, foot_app _ _ hfl]
    have e4 : ([116, 107, 116, 98] ++ (fourL (atT l) ++ (fourL (toT l) ++ fourL l.length))).drop 4 = fourL (atT l) ++ (fourL (toT l) ++ fourL l.length) := rfl
    have e8 : ([116, 107, 116, 98] ++ (fourL (atT l) ++ (fourL (toT l) ++ fourL l.length))).drop 8 = fourL (toT l) ++ fourL l.length := rfl
    have hno : buildB (toldX (turnL (tabO l) p z) (atT l) (toT l)) ≠ (turnL (tabO l) p z, 0) := by
      intro hb
      by_cases c1 : p < (blkT l (manyT l)).length
      · have e1 : turnL (tabO l) p z = turnL (blkT l (manyT l)) p z ++ (fr2 l ++ (fr3 l ++ footO (atT l) (toT l) l.length)) := by
          unfold tabO; rw [turn_left _ _ _ _ c1]
        have ht : toldX (turnL (tabO l) p z) (atT l) (toT l) = [] := by
          unfold toldX
          rw [if_neg (by rw [htl, hlen]; omega)]
          have hd : ((turnL (tabO l) p z).drop (atT l)).take (toT l - atT l) = fr2 l := by
            rw [e1, List.drop_left' (by rw [turn_len]; rfl), show toT l - atT l = (fr2 l).length by omega, List.take_left]
          have hg := fget_back 2 (idxT l (manyT l)) [] (by have := (fr2_len h).2; omega)
          rw [List.append_nil] at hg
          rw [hd, show fget (fr2 l) = (2, idxT l (manyT l), ((fr2 l).length : Int), 0) from hg]
          simp only
          rw [if_neg (by simp)]
          have hr := toldT_rot l h3 h2 z z1 z2 (manyT l) 0 ((turnL (tabO l) p z).length + 1) (fr2 l ++ (fr3 l ++ footO (atT l) (toT l) l.length)) p (fun i hi => many_le.1 i (by omega)) (by
            have := blkT_len' l h3 (manyT l) many_le.1
            rw [htl, hlen]; omega) (Nat.zero_le _) (by rw [Nat.zero_add]; exact c1)
          rw [Nat.zero_add, idxR_all, ← e1] at hr
          exact hr
        rw [ht] at hb
        have := (buildB_ok hb).1
        simp [chkT] at this
      · obtain ⟨hc', hb'⟩ := buildB_ok hb
        obtain ⟨_, _, p2, p3⟩ := tab_parts h hc' hb' ef
        by_cases c2 : p < (blkT l (manyT l)).length + (fr2 l).length
        · obtain ⟨q, rfl⟩ : ∃ q, p = (blkT l (manyT l)).length + q := ⟨p - (blkT l (manyT l)).length, by omega⟩
          have e1 : turnL (tabO l) ((blkT l (manyT l)).length + q) z = blkT l (manyT l) ++ (turnL (fr2 l) q z ++ (fr3 l ++ footO (atT l) (toT l) l.length)) := by
            unfold tabO; rw [turn_right, turn_left _ _ _ _ (by omega)]
          rw [e1, show (blkT l (manyT l) ++ (turnL (fr2 l) q z ++ (fr3 l ++ footO (atT l) (toT l) l.length))).drop (atT l) = turnL (fr2 l) q z ++ (fr3 l ++ footO (atT l) (toT l) l.length) from List.drop_left, show toT l - atT l = (fr2 l).length by omega, List.take_left' (turn_len _ _ _)] at p2
          exact turn_guard (fr2_oct h) (show q < (fr2 l).length by omega) z1 z2 p2
        · obtain ⟨q, rfl⟩ : ∃ q, p = (blkT l (manyT l) ++ fr2 l).length + q := ⟨p - (blkT l (manyT l) ++ fr2 l).length, by simp; omega⟩
          have hq : q < (fr3 l).length := by simp at hA'; omega
          have e1 : turnL (tabO l) ((blkT l (manyT l) ++ fr2 l).length + q) z = (blkT l (manyT l) ++ fr2 l) ++ (turnL (fr3 l) q z ++ footO (atT l) (toT l) l.length) := by
            have e0 : tabO l = (blkT l (manyT l) ++ fr2 l) ++ (fr3 l ++ footO (atT l) (toT l) l.length) := by unfold tabO; simp
            rw [e0, turn_right, turn_left _ _ _ _ hq]
          rw [htl, hlen] at p3
          rw [e1, List.drop_left' (show (blkT l (manyT l) ++ fr2 l).length = toT l by simp; omega), show (blkT l (manyT l)).length + ((fr2 l).length + ((fr3 l).length + 20)) - 20 - toT l = (fr3 l).length by omega, List.take_left' (turn_len _ _ _)] at p3
          exact turn_guard (fr3_oct h).1 hq z1 z2 p3
    unfold openB
    rw [if_neg (by rw [htl, hlen]; omega), ef, foot_bare]
    simp only
    rw [if_neg (by simp), if_neg (by simp), e4, e8, num_four _ (by omega), num_four _ (by omega), if_neg hno]
end Go.Proofs.Ytekoniaobmapdaa

/- The document's own Put: what it answers for any record. -/
namespace Go.Proofs.Ytekoniaobmapdaa
open Go.RowKit SumPlain
set_option linter.unusedVariables false
set_option maxRecDepth 20000

end Go.Proofs.Ytekoniaobmapdaa

/- The walk of the document's Build of layer 10. -/
namespace Go.Proofs.Ytekoniaobmapdaa
open Go.RowKit SumPlain
set_option linter.unusedVariables false
set_option linter.unusedSimpArgs false

theorem wpList_append_new (w : World) {ops : Array Oper} {rest : List Oper} {o : Oper} {a : Act} {Q : Exit → Act → World → Prop} (hgd : o.guard = none) (s x : Operand)
    (ho : o.op = .call { callee := .builtin .append, args := #[s, x], argTypes := #[23, 23] }) (b off n cap : Nat) (lo : List Int) (hs : a.eval s = .slice (some ⟨b, off, none⟩) n cap) (hO : Octs w (.slice (some ⟨b, off, none⟩) n cap) lo) (hne : lo ≠ [])
    (vx : Value) (lx : List Int) (hx : a.eval x = vx) (hOx : Octs w vx lx) (hnx : lx ≠ []) (hg : cap < n + lx.length) (hsz : lo.length + lx.length ≤ 140737488351232)
    (h : ∀ v' w', OwnB w' w.heap.size v' (lo ++ lx) → Below w.heap.size w w' → wpList Try.prog ops Q rest (a.put o.dst v') w') : wpList Try.prog ops Q (o :: rest) a w := by
  refine wpList_plain hgd fun K hK => ?_
  obtain ⟨i0, hi, hz0, hz1, hz2⟩ := info_some Try.info5
  rcases hO.2 with ⟨q, _⟩ | ⟨_, b1, off1, cap1, e1, _, _, hc1⟩
  · exact absurd q hne
  rcases hOx.2 with ⟨q, _⟩ | ⟨_, b2, off2, cap2, e2, _, _, hc2⟩
  · exact absurd q hnx
  simp only [Value.slice.injEq, Option.some.injEq, Addr.mk.injEq] at e1
  obtain ⟨⟨rfl, rfl, _⟩, hn, rfl⟩ := e1
  have hcell : ∀ (bb oo : Nat) (l : List Int), (∀ j x, l[j]? = some x → w.cell? ⟨bb, oo + j, none⟩ = some (.int .u8 x)) → ∀ j u, (l.map (Value.int .u8))[j]? = some u → w.cell? ((⟨bb, oo, none⟩ : Addr).add j) = some u := by
    intro bb oo l hc j u hj
    rw [List.getElem?_map] at hj
    cases hx' : l[j]? with
    | none => rw [hx'] at hj; cases hj
    | some y =>
      rw [hx'] at hj
      simp at hj
      subst hj
      rw [Addr.add_lit]
      exact hc j y hx'
  obtain ⟨v', w', hr, h2, h3⟩ := run_append_arg_grows (P := Try.prog) w 23 o.type 5 i0 (.int .u8 0) 1 1 Try.underlying23 hi hz0 hz1 hz2 rfl (by decide) ⟨b, off, none⟩ n cap (lo.map (Value.int .u8)) (by simp [hn]) (hcell b off lo hc1) ⟨b2, off2, none⟩ lx.length cap2 (lx.map (Value.int .u8)) (by simp) (hcell b2 off2 lx hc2) hg (by unfold maxLen; omega) (by omega)
  have h2' : OwnB w' w.heap.size v' (lo ++ lx) := by
    unfold OwnB
    rw [List.length_append, List.map_append, ← hn]
    exact h2
  have h3' : Below w.heap.size w w' := (Below.refl _ _).grown h3 (Nat.le_refl _) (fun k hk => by cases hk)
  rw [e2] at hx
  unfold Oper.wp execOp
  simp only [ho, resolve, invoke, builtin, Sem.run_bind, Sem.run_pure, Result.andThen_ok, List.map_toArray, List.map_cons, List.map_nil, hs, hx, hr]
  exact hK _ _ (h v' w' h2' h3')
theorem octs_const (w : World) (l : List Int) (hl : l.length = 4) (ho : ∀ x ∈ l, 0 ≤ x ∧ x ≤ 255) (m : Nat × Nat) : Octs (w.alloc (.cells (l.map (Value.int .u8)).toArray 5 m)) (.slice (some ⟨w.heap.size, 0, none⟩) 4 4) l := by
  refine ⟨ho, .inr ⟨(by intro q; rw [q] at hl; cases hl), w.heap.size, 0, 4, (by rw [hl]), (by omega), (by unfold maxLen; omega), fun j x hj => ?_⟩⟩
  have e := World.cell?_alloc_mark w (l.map (Value.int .u8)).toArray 5 m j
  rw [Nat.zero_add]
  refine e.trans ?_
  simp [hj]
/-- The loop of Build: so many blocks and rows of the index. -/
structure BuI (w wr : World) (l : List En) (k : Nat) (ba : Option Addr) (bn bc : Nat) (ta : Option Addr) (tn tc : Nat) : Prop where
  en : EnW w (.slice ba bn bc) (.slice ta tn tc) (blkT l k) (idxT l k) wr
  km : k ≤ manyT l

end Go.Proofs.Ytekoniaobmapdaa

/- The document's number of layer 10. -/
namespace Go.Proofs.Ytekoniaobmapdaa
open Go.RowKit SumPlain
set_option linter.unusedVariables false
set_option linter.unusedSimpArgs false

theorem bits_or_i64_nat (a b : Nat) (ha : a < 9223372036854775808) (hb : b < 9223372036854775808) :
    bits .or .i64 (a : Int) (b : Int) = ((a ||| b : Nat) : Int) := by
  have hx : a ||| b < 2 ^ 63 := Nat.or_lt_two_pow (by omega) (by omega)
  have h1 : (BitVec.ofInt 64 (a : Int)).toNat = a := by
    rw [BitVec.ofInt_natCast, BitVec.toNat_ofNat]; exact Nat.mod_eq_of_lt (by omega)
  have h2 : (BitVec.ofInt 64 (b : Int)).toNat = b := by
    rw [BitVec.ofInt_natCast, BitVec.toNat_ofNat]; exact Nat.mod_eq_of_lt (by omega)
  show IntKind.i64.wrap ((BitVec.ofInt 64 (a : Int) ||| BitVec.ofInt 64 (b : Int)).toNat : Int) = _
  rw [BitVec.toNat_or, h1, h2, IntKind.wrap_i64]
  omega
theorem or_add (k : Nat) (A y : Int) (hA : 0 ≤ A) (hA2 : A ≤ 4294967295) (hk : k ≤ 24) (hy : 0 ≤ y) (hy2 : y < ((2 ^ k : Nat) : Int)) : bits .or .i64 (A * ((2 ^ k : Nat) : Int)) y = A * ((2 ^ k : Nat) : Int) + y := by
  obtain ⟨a, rfl⟩ := Int.eq_ofNat_of_zero_le hA
  obtain ⟨b, rfl⟩ := Int.eq_ofNat_of_zero_le hy
  have hp : 2 ^ k ≤ 2 ^ 24 := Nat.pow_le_pow_right (by omega) hk
  have hm : a * 2 ^ k ≤ 4294967295 * 2 ^ 24 := Nat.mul_le_mul (by omega) hp
  rw [← Int.natCast_mul, bits_or_i64_nat _ _ (by omega) (by omega)]
  have h := Nat.shiftLeft_add_eq_or_of_lt (b := b) (i := k) (by omega) a
  rw [Nat.shiftLeft_eq] at h
  rw [← h]
  simp

end Go.Proofs.Ytekoniaobmapdaa

/- The document's own Get over any octets: it answers what 'fget' says. -/
namespace Go.Proofs.Ytekoniaobmapdaa
open Go.RowKit SumPlain
set_option linter.unusedVariables false
set_option maxRecDepth 20000

end Go.Proofs.Ytekoniaobmapdaa
