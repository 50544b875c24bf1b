/- The texts YMay, TKeys, TFour, TRot, GPut, in this order. -/
import Derived.Test.YtekoniaobmapdabPPut
import Derived.Test.YtekoniaobmapdabG19
import Derived.Test.YtekoniaobmapdabG09
import Derived.Test.YtekoniaobmapdabG17
import Derived.Test.YtekoniaobmapdabFMath
import Derived.Test.YtekoniaobmapdabVRefPut

/- The program's mayStand of layer 9: a version may stand if it can be put into a list without nodes. -/
namespace Go.Proofs.Ytekoniaobmapdab
open Go.RowKit
set_option linter.unusedVariables false
set_option linter.unusedSimpArgs false

theorem hid {p : Prop} (h : p) : Hid p := h
theorem cellAl {w : World} {a : Addr} {x : Value} (h : w.cell? a = some x) (o : Obj) : (w.alloc o).cell? a = some x := by
  have := (up_alloc w o).cell (World.block_lt_of_cell? w a h)
  rw [this]
  exact h
theorem idx70 (n0 n1 n2 n3 : Int) (w : World) : (Instr.index 120 (.agg #[.int .i64 n0, .int .i64 n1, .int .i64 n2, .int .i64 n3]) (.int .i64 0)).run Try.prog w = .ok (.int .i64 n0) w ∧ (Instr.index 120 (.agg #[.int .i64 n0, .int .i64 n1, .int .i64 n2, .int .i64 n3]) (.int .i64 1)).run Try.prog w = .ok (.int .i64 n1) w ∧ (Instr.index 120 (.agg #[.int .i64 n0, .int .i64 n1, .int .i64 n2, .int .i64 n3]) (.int .i64 2)).run Try.prog w = .ok (.int .i64 n2) w ∧ (Instr.index 120 (.agg #[.int .i64 n0, .int .i64 n1, .int .i64 n2, .int .i64 n3]) (.int .i64 3)).run Try.prog w = .ok (.int .i64 n3) w := ⟨by kernel_rfl, by kernel_rfl, by kernel_rfl, by kernel_rfl⟩
/-- The box of x stands in the block N. -/
def BoxN (W : World) (N : Nat) (x : En) : Prop := W.heap[N]? = some (enObj x)
def noneO : Obj := .cells #[.slice none 0 0, .slice none 0 0] 116
theorem errP_empty (x : En) : errP emptyS x 1 = if mayE x then 0 else 1 := by
  unfold errP
  rw [(checkS_iff emptyS).2 emptyS_good]
  cases mayE x
  · rfl
  · rfl
theorem BoxN.up {W W' : World} {N : Nat} {x : En} (h : BoxN W N x) (hb : Below W.heap.size W W') : BoxN W' N x := blk_up h hb
theorem BoxN.cells {W : World} {N : Nat} {x : En} (h : BoxN W N x) : W.cell? ⟨N, 0, none⟩ = some (.string x.key) ∧ W.cell? ⟨N, 1, none⟩ = some (.int .i64 x.seq) ∧ W.cell? ⟨N, 2, none⟩ = some (.int .i64 x.kind) ∧ W.cell? ⟨N, 3, none⟩ = some (.string x.val) :=
  ⟨blk_cell h 0 _ rfl, blk_cell h 1 _ rfl, blk_cell h 2 _ rfl, blk_cell h 3 _ rfl⟩
/-- What New leaves. -/
def NewAt (W w' : World) (N : Nat) (x : En) (a : Option Addr) (c : Nat) (a2 : Option Addr) (c2 : Nat) : Prop := BoxN w' N x ∧ SkE w' (.slice a 0 c) (.slice a2 8 c2) emptyS [] ∧ Below W.heap.size W w'
theorem newC (x : En) (N : Nat) (W : World) (h : BoxN W N x) : Calls Try.prog 71 #[] W fun e w' => ∃ a c a2 c2, e = .returned (.agg #[.slice a 0 c, .slice a2 8 c2]) ∧ w'.cell? ⟨N, 0, none⟩ = some (.string x.key) ∧ w'.cell? ⟨N, 1, none⟩ = some (.int .i64 x.seq) ∧ w'.cell? ⟨N, 2, none⟩ = some (.int .i64 x.kind) ∧ w'.cell? ⟨N, 3, none⟩ = some (.string x.val) ∧ N ≠ w'.heap.size ∧ w'.heap.size ≠ N ∧ Hid (NewAt W w' N x a c a2 c2) := by
  refine (new_any W).mono ?_
  rintro e w' ⟨a, c, a2, c2, rfl, ho, hb⟩
  have hB := h.up hb.out
  obtain ⟨c0, c1, c3, c4⟩ := hB.cells
  have hlt : N < w'.heap.size := blk_lt hB
  exact ⟨a, c, a2, c2, rfl, c0, c1, c3, c4, by omega, by omega, hB, ho.out.read, hb.out⟩
theorem putC (x : En) (N : Nat) (W0 W : World) (a : Option Addr) (c : Nat) (a2 : Option Addr) (c2 : Nat) (h : NewAt W0 W N x a c a2 c2) : Calls Try.prog 70 #[.agg #[.slice a 0 c, .slice a2 8 c2], .agg #[.string x.key, .int .i64 x.seq, .int .i64 x.kind, .string x.val], .int .i64 1] W fun e w' => ∃ b n d b2 n2 d2, e = .returned (.tuple #[.agg #[.slice b n d, .slice b2 n2 d2], .int .i64 (if mayE x then 0 else 1)]) ∧ w'.cell? ⟨N, 0, none⟩ = some (.string x.key) ∧ w'.cell? ⟨N, 1, none⟩ = some (.int .i64 x.seq) ∧ w'.cell? ⟨N, 2, none⟩ = some (.int .i64 x.kind) ∧ w'.cell? ⟨N, 3, none⟩ = some (.string x.val) ∧ Hid (Below W0.heap.size W0 w') := by
  refine (putS_any emptyS [] _ _ x 1 W h.2.1).mono ?_
  rintro e w' ⟨vN, vH, t, es, rfl, ho, hb⟩
  obtain ⟨⟨b, d, rfl⟩, ⟨b2, d2, rfl⟩⟩ := ho.out.1.read.form
  obtain ⟨c0, c1, c3, c4⟩ := (h.1.up hb.out).cells
  exact ⟨b, _, d, b2, _, d2, by rw [errP_empty], c0, c1, c3, c4, up_trans h.2.2 hb.out⟩
theorem NewAt.al {W0 W : World} {N : Nat} {x : En} {a : Option Addr} {c : Nat} {a2 : Option Addr} {c2 : Nat} (h : NewAt W0 W N x a c a2 c2) (o : Obj) : NewAt W0 (W.alloc o) N x a c a2 c2 :=
  ⟨h.1.up (up_alloc _ _), h.2.1.up (up_alloc _ _), up_al h.2.2 _⟩
/-- The block T of the caller's stands through a call. -/
theorem none_up {W w' : World} {T : Nat} (hT : W.heap[T]? = some noneO) (hb : Below W.heap.size W w') : w'.cell? ⟨T, 0, none⟩ = some (.slice none 0 0) ∧ w'.cell? ⟨T, 1, none⟩ = some (.slice none 0 0) ∧ w'.frozen? ⟨T, 0, none⟩ = false ∧ w'.frozen? ⟨T, 1, none⟩ = false := by
  have h := blk_up hT hb
  exact ⟨blk_cell h 0 _ rfl, blk_cell h 1 _ rfl, blk_frozen h 0, blk_frozen h 1⟩

theorem newT (x : En) (N T : Nat) (W : World) (h : BoxN W N x) (hT : W.heap[T]? = some noneO) : Calls Try.prog 71 #[] W fun e w' => ∃ a c a2 c2, e = .returned (.agg #[.slice a 0 c, .slice a2 8 c2]) ∧ w'.cell? ⟨N, 0, none⟩ = some (.string x.key) ∧ w'.cell? ⟨N, 1, none⟩ = some (.int .i64 x.seq) ∧ w'.cell? ⟨N, 2, none⟩ = some (.int .i64 x.kind) ∧ w'.cell? ⟨N, 3, none⟩ = some (.string x.val) ∧ w'.cell? ⟨T, 0, none⟩ = some (.slice none 0 0) ∧ w'.cell? ⟨T, 1, none⟩ = some (.slice none 0 0) ∧ w'.frozen? ⟨T, 0, none⟩ = false ∧ w'.frozen? ⟨T, 1, none⟩ = false ∧ Hid (NewAt W w' N x a c a2 c2) ∧ Hid (w'.heap[T]? = some noneO) := by
  refine (newC x N W h).mono ?_
  rintro e w' ⟨a, c, a2, c2, rfl, c0, c1, c3, c4, _, _, hn⟩
  obtain ⟨t0, t1, f0, f1⟩ := none_up hT hn.out.2.2
  exact ⟨a, c, a2, c2, rfl, c0, c1, c3, c4, t0, t1, f0, f1, hn, blk_up hT hn.out.2.2⟩
theorem putT (x : En) (N T : Nat) (W0 W : World) (a : Option Addr) (c : Nat) (a2 : Option Addr) (c2 : Nat) (h : NewAt W0 W N x a c a2 c2) (hT : W.heap[T]? = some noneO) : Calls Try.prog 70 #[.agg #[.slice a 0 c, .slice a2 8 c2], .agg #[.string x.key, .int .i64 x.seq, .int .i64 x.kind, .string x.val], .int .i64 1] W fun e w' => ∃ b n d b2 n2 d2, e = .returned (.tuple #[.agg #[.slice b n d, .slice b2 n2 d2], .int .i64 (if mayE x then 0 else 1)]) ∧ w'.cell? ⟨N, 0, none⟩ = some (.string x.key) ∧ w'.cell? ⟨N, 1, none⟩ = some (.int .i64 x.seq) ∧ w'.cell? ⟨N, 2, none⟩ = some (.int .i64 x.kind) ∧ w'.cell? ⟨N, 3, none⟩ = some (.string x.val) ∧ w'.cell? ⟨T, 0, none⟩ = some (.slice none 0 0) ∧ w'.cell? ⟨T, 1, none⟩ = some (.slice none 0 0) ∧ w'.frozen? ⟨T, 0, none⟩ = false ∧ w'.frozen? ⟨T, 1, none⟩ = false ∧ Hid (Below W0.heap.size W0 w') := by
  refine (putS_any emptyS [] _ _ x 1 W h.2.1).mono ?_
  rintro e w' ⟨vN, vH, t, es, rfl, ho, hb⟩
  obtain ⟨⟨b, d, rfl⟩, ⟨b2, d2, rfl⟩⟩ := ho.out.1.read.form
  obtain ⟨c0, c1, c3, c4⟩ := (h.1.up hb.out).cells
  obtain ⟨t0, t1, f0, f1⟩ := none_up hT hb.out
  exact ⟨b, _, d, b2, _, d2, by rw [errP_empty], c0, c1, c3, c4, t0, t1, f0, f1, up_trans h.2.2 hb.out⟩

set_option maxHeartbeats 2000000 in
set_option maxRecDepth 100000 in
theorem mayP_any (x : En) (w : World) : Calls Try.prog 54 #[enV x] w fun e w' => e = .returned (.bool (mayE x)) ∧ Hid (Below w.heap.size w w') := by
  have hbox : BoxN (w.alloc (enObj x)) w.heap.size x := blk_new w _
  have HN1 := newC x w.heap.size (w.alloc (enObj x)).drew (hbox.up (up_drewN _ 1))
  have HN2 := newT x w.heap.size (w.heap.size + 1) ((w.alloc (enObj x)).alloc noneO).drew ((hbox.up (up_alloc _ _)).up (up_drewN _ 1)) (blk_up (by have := blk_new (w.alloc (enObj x)) noneO; simpa using this) (up_drewN _ 1))
  have HP := putC x w.heap.size
  have HP2 := putT x w.heap.size (w.heap.size + 1)
  have HP3 := fun (W0 W : World) (a : Option Addr) (c : Nat) (a2 : Option Addr) (c2 : Nat) (h : NewAt W0 W w.heap.size x a c a2 c2) => putT x w.heap.size W.heap.size W0 (W.alloc noneO) a c a2 c2 (h.al _) (blk_new _ _)
  have HU1 : Hid (Below w.heap.size w (w.alloc (enObj x)).drew) := up_trans (up_alloc _ _) (up_drewN _ 1)
  have HU2 : Hid (Below w.heap.size w ((w.alloc (enObj x)).alloc noneO).drew) := up_trans (up_al (up_alloc _ _) _) (up_drewN _ 1)
  generalize hq : (if mayE x then (0 : Int) else 1) = q at HP HP2 HP3
  have HQ : Hid ((if mayE x then (0 : Int) else 1) = q) := hq
  have hq2 : (q == 0) = mayE x := by rw [← hq]; cases mayE x <;> rfl
  clear hq hbox
  unfold enV
  unfold enObj at HN1 HN2 HU1 HU2
  unfold noneO at HN2 HP2 HP3 HU2
  replace HN1 := hid HN1
  replace HN2 := hid HN2
  replace HP := hid HP
  replace HP2 := hid HP2
  replace HP3 := hid HP3
  go_enter Try.func54, Try.ntmps54
  go_wp2_with fail
  go_region_held3 (fun w' => w'.cell? ⟨w.heap.size, 0, none⟩ = some (.string x.key) ∧ w'.cell? ⟨w.heap.size, 1, none⟩ = some (.int .i64 x.seq) ∧ w'.cell? ⟨w.heap.size, 2, none⟩ = some (.int .i64 x.kind) ∧ w'.cell? ⟨w.heap.size, 3, none⟩ = some (.string x.val)) (first | with_reducible exact ⟨y0, y1, y2, y3⟩ | exact ⟨cellAl y0 _, cellAl y1 _, cellAl y2 _, cellAl y3 _⟩ | (simp [go_sem]; done) | (simp [go_sem, y0, y1, y2, y3]; done) | (simp [go_sem, y0, y1, y2, y3, n1, n2]; done)) (first
    | (go_at_call 71; with_reducible refine HN1.out.mono ?_; rintro e w1 ⟨a, c, a2, c2, rfl, y0, y1, y2, y3, n1, n2, h1⟩)
    | (go_at_call 71; with_reducible refine HN2.out.mono ?_; rintro e w1 ⟨a, c, a2, c2, rfl, y0, y1, y2, y3, t0, t1, f0, f1, h1, hT⟩)
    | (go_at_call 70; with_reducible refine (HP2.out _ _ _ _ _ _ h1.out hT.out).mono ?_; rintro e w2 ⟨b, n, d, b2, n2, d2, rfl, y0, y1, y2, y3, t0, t1, f0, f1, h2⟩)
    | (go_at_call 70; with_reducible refine (HP.out _ _ _ _ _ _ h1.out).mono ?_; rintro e w2 ⟨b, n, d, b2, n2, d2, rfl, y0, y1, y2, y3, h2⟩)
    | (go_at_call 70; with_reducible refine (HP3.out _ _ _ _ _ _ h1.out).mono ?_; rintro e w2 ⟨b, n, d, b2, n2, d2, rfl, y0, y1, y2, y3, t0, t1, f0, f1, h2⟩))
  all_goals
    go_wp2_with fail
    go_ret
  · exact ⟨rfl, up_al (up_trans HU1.out h2.out) _⟩
  · have u := up_trans HU1.out h2.out
    have s1 := (up_trans HU1.out h1.out.2.2).size
    exact ⟨rfl, u.grown (set2_grown w2 w1.heap.size _ _) u.size (fun k hk => by injection hk with hk; rw [← hk]; omega)⟩
  · have u := up_trans HU2.out h2.out
    exact ⟨rfl, u.grown (set2_grown w2 (w.heap.size + 1) _ _) u.size (fun k hk => by injection hk with hk; rw [← hk]; omega)⟩
end Go.Proofs.Ytekoniaobmapdab

/- The document's Keys and four of layer 10. -/
namespace Go.Proofs.Ytekoniaobmapdab
open Go.RowKit SumPlain
set_option linter.unusedVariables false
set_option linter.unusedSimpArgs false

def lastKT : Option (List Int) → List En → Option (List Int)
  | p, [] => p
  | _, x :: r => lastKT (some (nums x.key)) r
theorem keysT_snoc : ∀ (l : List En) (p : Option (List Int)) (x : En), keysT p (l ++ [x]) = keysT p l ++ cond (sameKT (lastKT p l) (nums x.key)) [] [nums x.key]
  | [], p, x => by simp [keysT, lastKT]
  | y :: r, p, x => by
    simp only [List.cons_append, keysT, lastKT]
    rw [keysT_snoc r (some (nums y.key)) x, List.append_assoc]
theorem lastKT_take (l : List En) : ∀ (k : Nat) (y : En) (p : Option (List Int)), l[k]? = some y → lastKT p (l.take (k + 1)) = some (nums y.key) := by
  induction l with
  | nil => intro k y p h; simp at h
  | cons z r ih =>
    intro k y p h
    cases k with
    | zero => simp at h; subst h; simp [lastKT]
    | succ k =>
      simp at h
      rw [List.take_succ_cons, lastKT]
      exact ih k y _ h
theorem keysT_len : ∀ (l : List En) (p : Option (List Int)), (keysT p l).length ≤ l.length
  | [], p => by simp [keysT]
  | x :: r, p => by
    have := keysT_len r (some (nums x.key))
    simp only [keysT, List.length_append, List.length_cons]
    cases sameKT p (nums x.key) <;> simp <;> omega
theorem keysT_oct : ∀ (l : List En) (p : Option (List Int)), ∀ s ∈ keysT p l, ∃ x ∈ l, s = nums x.key
  | [], p, s, h => by simp [keysT] at h
  | x :: r, p, s, h => by
    rw [keysT] at h
    rcases List.mem_append.1 h with q | q
    · cases hs : sameKT p (nums x.key) with
      | true => rw [hs] at q; cases q
      | false => rw [hs] at q; simp at q; exact ⟨x, by simp, q⟩
    · obtain ⟨y, hy, e⟩ := keysT_oct r _ s q
      exact ⟨y, by simp [hy], e⟩
theorem nums_eq_iff (a b : ByteArray) : nums a = nums b ↔ a.toList = b.toList := by
  constructor
  · intro h
    have := congrArg strOfNums h
    rw [str_nums, str_nums] at this
    rw [this]
  · intro h
    have e : a.data.toList = b.data.toList := by simpa [ByteArray.toList_eq] using h
    unfold nums
    rw [e]
theorem srow_one (s : List Int) : ∀ r ∈ [srow s], ∀ u ∈ r, u.oneCell' = true := by
  intro r hr u hu
  simp at hr
  subst hr
  simp [srow] at hu
  subst hu
  rfl
theorem Try.info9 : (Try.prog.info? 9).map (fun i => (i.zero, i.size, i.bytes)) = some (some (.string ⟨#[]⟩), 1, 16) := by kernel_rfl

set_option maxHeartbeats 2000000 in
set_option maxRecDepth 100000 in
theorem refKeys_any (l : List En) (v : Value) (w : World) (hv : EntsR w v l) (hl : l.length ≤ 8796093022208) :
    Calls Try.prog 21 #[v] w fun e w' => ∃ a n c, e = .returned (.slice a n c) ∧ Hid (n = (keysT none l).length) ∧ Hid (OwnR w' w.heap.size 9 1 (.slice a n c) ((keysT none l).map srow)) ∧ Hid (Below w.heap.size w w') := by
  have HV : Hid (EntsR w v l) := hv
  obtain ⟨a, c, rfl, hc, hm⟩ := hv.len
  obtain ⟨n, hn⟩ : ∃ n, n = l.length := ⟨_, rfl⟩
  have HL : Hid (l.length = n) := hn.symm
  rw [← hn] at HV hl ⊢
  clear hv hn hc hm
  go_enter Try.func21, Try.ntmps21
  go_wp2_with fail
  go_loopw [3, 4] (fun vo i wr => ∃ (k m : Nat) (oa : Option Addr) (oc : Nat), k ≤ n ∧ vo = .slice oa m oc ∧ i = .int .i64 k ∧ Hid (m = (keysT none (l.take k)).length) ∧ Hid (OwnR wr w.heap.size 9 1 (.slice oa m oc) ((keysT none (l.take k)).map srow)) ∧ Hid (Below w.heap.size w wr)) (fun _ i _ => n - (intOf i).toNat)
  case atStart => exact ⟨0, 0, none, 0, Nat.zero_le _, rfl, rfl, by simp [Hid, keysT], by simpa [Hid, keysT] using OwnR.nil _ _ _ _, Below.refl _ _⟩
  case round =>
    obtain ⟨k, m, oa, oc, hk, rfl, rfl, HM, HO, HB⟩ := hrel
    by_cases hlt : k < n
    · have hlt' : (k : Int) < (n : Int) := by omega
      obtain ⟨b, off, cap, x, e, hx, z0, z1, z2, z3⟩ := (HV.out.up HB.out).at k (by rw [HL.out]; exact hlt)
      simp only [Value.slice.injEq] at e
      obtain ⟨rfl, hnn, rfl⟩ := e
      clear hnn z1 z2 z3
      have HT : Hid (keysT none (l.take (k + 1)) = keysT none (l.take k) ++ cond (sameKT (lastKT none (l.take k)) (nums x.key)) [] [nums x.key]) := by
        unfold Hid
        rw [List.take_add_one, hx]
        exact keysT_snoc _ _ _
      -- a key is taken
      have HAPP : Hid (sameKT (lastKT none (l.take k)) (nums x.key) = false → ∀ (W : World), Below wr.heap.size wr W → ∀ (a6 : Option Addr) (n6 c6 : Nat) (w6 : World), OwnR w6 w.heap.size 9 1 (.slice a6 n6 c6) ((keysT none (l.take k)).map srow ++ [srow (nums x.key)]) → W.grownBy w6 (Value.slice oa m oc).ownBlock → n6 = (keysT none (l.take (k + 1))).length ∧ Hid (OwnR w6 w.heap.size 9 1 (.slice a6 n6 c6) ((keysT none (l.take (k + 1))).map srow)) ∧ Hid (Below w.heap.size w w6)) := by
        intro hne W hb a6 n6 c6 w6 ho hg
        have e := HT.out
        rw [hne, cond_false] at e
        have ho' : OwnR w6 w.heap.size 9 1 (.slice a6 n6 c6) ((keysT none (l.take (k + 1))).map srow) := by rw [e, List.map_append]; exact ho
        obtain ⟨_, _, e6, _, _⟩ := (Rws.own ho').len
        simp only [Value.slice.injEq, List.length_map] at e6
        have u := up_trans HB.out hb
        exact ⟨e6.2.1, ho', u.grown hg u.size (fun q hq => (HO.out.2.lt q hq).1)⟩
      have HX : Hid (l[k]? = some x) := hx
      have HSM : Hid (((keysT none (l.take k)).map srow).length + [srow (nums x.key)].length ≤ 8796093022209) := by
        have := keysT_len (l.take k) none
        unfold Hid
        simp at this ⊢
        omega
      clear hx
      -- the append, in any world above
      by_cases h0 : k = 0
      · subst h0
        have hne : sameKT (lastKT none (l.take 0)) (nums x.key) = false := rfl
        have HA := hid (HAPP.out hne)
        go_wp2_with fail
        go_quiet (fail)
        have UQ : Hid (Below wr.heap.size wr (wr.drewN nq)) := up_drewN _ _
        have z0' : (wr.drewN nq).cell? ⟨b, off, none⟩ = some (.string x.key) := by
          have z := (UQ.out.cell (World.block_lt_of_cell? _ _ z0)).trans z0
          simpa using z
        generalize wr.drewN nq = W at *
        obtain ⟨WC, hWC⟩ : ∃ WC, WC = W.alloc (.cells #[.string x.key] 9) := ⟨_, rfl⟩
        have HWC : Hid (W.alloc (.cells #[.string x.key] 9) = WC) := hWC.symm
        have UC : Hid (Below W.heap.size W WC) := by rw [hWC]; exact up_alloc _ _
        have HR2 : Hid (Rws 1 WC (.slice (some ⟨W.heap.size, 0, none⟩) 1 1) [srow (nums x.key)]) := by
          have := Rws.made (sz := 1) W 9 [srow (nums x.key)] (by simp [srow]) (by simp [maxLen])
          unfold Hid
          rw [hWC]
          simpa [srow, str_nums] using this
        have OC : Hid (OwnR WC w.heap.size 9 1 (.slice oa m oc) ((keysT none (l.take 0)).map srow)) := (HO.out.up UQ.out).up UC.out
        have UWC : Hid (Below wr.heap.size wr WC) := up_trans UQ.out UC.out
        have HA4 : Hid ((((keysT none (l.take 0)).map srow).length + [srow (nums x.key)].length + (((keysT none (l.take 0)).map srow).length + [srow (nums x.key)].length) / 4 + 192) * 16 ≤ 281474976710656 ∧ ((keysT none (l.take 0)).map srow).length + [srow (nums x.key)].length ≤ maxLen) := by
          have := HSM.out
          unfold Hid maxLen; omega
        have HS5 : Hid (w.heap.size ≤ WC.heap.size) := (up_trans HB.out UWC.out).size
        clear hWC
        go_wp2_with (rw [HWC.out]; at_builtin; refine wpList_append_rows WC rfl _ _ 58 9 _ 1 16 rfl Try.underlying58 Try.info9 rfl (by decide) w.heap.size (.slice oa m oc) ((keysT none (l.take 0)).map srow) rfl OC.out (.slice (some ⟨W.heap.size, 0, none⟩) 1 1) [srow (nums x.key)] rfl HR2.out (srow_one _) HA4.out.1 HA4.out.2 HS5.out ?_)
        intro v6 w6 ho hg
        obtain ⟨a6, c6, e6, _, _⟩ := (Rws.own ho).len
        generalize hn6 : ((keysT none []).map srow ++ [srow (nums x.key)]).length = n6 at *
        subst e6
        obtain ⟨q1, q2, q3⟩ := HA.out WC UWC.out a6 n6 c6 w6 ho hg
        clear ho hg hn6
        go_wp2_with fail
        exact ⟨⟨0 + 1, n6, a6, c6, by omega, rfl, by go_num, q1, q2, q3⟩, by simp [intOf]; omega⟩
      · obtain ⟨j, hj⟩ : ∃ j, k = j + 1 := ⟨k - 1, by omega⟩
        obtain ⟨b2, off2, cap2, y, e2, hy, t0, _, _, _⟩ := (HV.out.up HB.out).at j (by rw [HL.out]; omega)
        simp only [Value.slice.injEq, Option.some.injEq, Addr.mk.injEq] at e2
        obtain ⟨⟨rfl, rfl, _⟩, hnn2, rfl⟩ := e2
        clear hnn2
        have hjj : (k : Int) - 1 = (j : Int) := by omega
        have hk0 : ((k : Int) == 0) = false := by simp; omega
        have hk1 : ¬ (k : Int) = 0 := by omega
        have hwj : IntKind.i64.wrap (j : Int) = (j : Int) := by rw [IntKind.wrap_i64]; omega
        have hjl : (j : Int) < (n : Int) := by omega
        have hj0 : (0 : Int) ≤ (j : Int) := by omega
        have hla : lastKT none (l.take k) = some (nums y.key) := by rw [hj]; exact lastKT_take l j y none hy
        have HSK : Hid (sameKT (lastKT none (l.take k)) (nums x.key) = (nums y.key == nums x.key)) := by unfold Hid; rw [hla]; rfl
        clear hj hla hy
        by_cases hsame : x.key.toList = y.key.toList
        · have hs1 : (x.key.toList == y.key.toList) = true := by simp [hsame]
          have hs2 : (x.key.toList != y.key.toList) = false := by simp [hsame]
          have HE : Hid (keysT none (l.take (k + 1)) = keysT none (l.take k)) := by
            have e := HT.out
            rw [HSK.out, show (nums y.key == nums x.key) = true by rw [beq_iff_eq]; exact (nums_eq_iff _ _).2 hsame.symm, cond_true, List.append_nil] at e
            exact e
          have HM2 : Hid (m = (keysT none (l.take (k + 1))).length) := by unfold Hid; rw [HE.out]; exact HM.out
          have HO2 : Hid (OwnR wr w.heap.size 9 1 (.slice oa m oc) ((keysT none (l.take (k + 1))).map srow)) := by unfold Hid; rw [HE.out]; exact HO.out
          go_wp2_with fail
          go_quiet (fail)
          go_wp2_with fail
          exact ⟨⟨k + 1, m, oa, oc, by omega, rfl, by go_num, HM2, HO2.out.up (up_drewN _ _), up_trans HB.out (up_drewN _ _)⟩, by simp [intOf]; omega⟩
        · have hs1 : (x.key.toList == y.key.toList) = false := by simp [hsame]
          have hs2 : (x.key.toList != y.key.toList) = true := by simp [hsame]
          have hne : sameKT (lastKT none (l.take k)) (nums x.key) = false := by
            rw [HSK.out]
            rw [beq_eq_false_iff_ne]
            intro q
            exact hsame ((nums_eq_iff _ _).1 q).symm
          have HA := hid (HAPP.out hne)
          go_wp2_with fail
          go_quiet (fail)
          have UQ : Hid (Below wr.heap.size wr (wr.drewN nq)) := up_drewN _ _
          have z0' : (wr.drewN nq).cell? ⟨b, off + k * 4, none⟩ = some (.string x.key) := (UQ.out.cell (World.block_lt_of_cell? _ _ z0)).trans z0
          generalize wr.drewN nq = W at *
          obtain ⟨WC, hWC⟩ : ∃ WC, WC = W.alloc (.cells #[.string x.key] 9) := ⟨_, rfl⟩
          have HWC : Hid (W.alloc (.cells #[.string x.key] 9) = WC) := hWC.symm
          have UC : Hid (Below W.heap.size W WC) := by rw [hWC]; exact up_alloc _ _
          have HR2 : Hid (Rws 1 WC (.slice (some ⟨W.heap.size, 0, none⟩) 1 1) [srow (nums x.key)]) := by
            have := Rws.made (sz := 1) W 9 [srow (nums x.key)] (by simp [srow]) (by simp [maxLen])
            unfold Hid
            rw [hWC]
            simpa [srow, str_nums] using this
          have OC : Hid (OwnR WC w.heap.size 9 1 (.slice oa m oc) ((keysT none (l.take k)).map srow)) := (HO.out.up UQ.out).up UC.out
          have UWC : Hid (Below wr.heap.size wr WC) := up_trans UQ.out UC.out
          have HA4 : Hid ((((keysT none (l.take k)).map srow).length + [srow (nums x.key)].length + (((keysT none (l.take k)).map srow).length + [srow (nums x.key)].length) / 4 + 192) * 16 ≤ 281474976710656 ∧ ((keysT none (l.take k)).map srow).length + [srow (nums x.key)].length ≤ maxLen) := by
            have := HSM.out
            unfold Hid maxLen; omega
          have HS5 : Hid (w.heap.size ≤ WC.heap.size) := (up_trans HB.out UWC.out).size
          clear hWC
          go_wp2_with (rw [HWC.out]; at_builtin; refine wpList_append_rows WC rfl _ _ 58 9 _ 1 16 rfl Try.underlying58 Try.info9 rfl (by decide) w.heap.size (.slice oa m oc) ((keysT none (l.take k)).map srow) rfl OC.out (.slice (some ⟨W.heap.size, 0, none⟩) 1 1) [srow (nums x.key)] rfl HR2.out (srow_one _) HA4.out.1 HA4.out.2 HS5.out ?_)
          intro v6 w6 ho hg
          obtain ⟨a6, c6, e6, _, _⟩ := (Rws.own ho).len
          generalize hn6 : ((keysT none (l.take k)).map srow ++ [srow (nums x.key)]).length = n6 at *
          subst e6
          obtain ⟨q1, q2, q3⟩ := HA.out WC UWC.out a6 n6 c6 w6 ho hg
          clear ho hg hn6
          go_wp2_with fail
          exact ⟨⟨k + 1, n6, a6, c6, by omega, rfl, by go_num, q1, q2, q3⟩, by simp [intOf]; omega⟩
    · have hlt' : ¬ (k : Int) < (n : Int) := by omega
      obtain rfl : k = n := by omega
      have e : l.take k = l := List.take_of_length_le (by rw [HL.out]; exact Nat.le_refl _)
      rw [e] at HM HO
      go_wp2_with fail
      go_ret
      exact ⟨oa, m, oc, rfl, HM, HO, HB⟩
end Go.Proofs.Ytekoniaobmapdab

/- The document's four of layer 10; versions cut out of a slice. -/
namespace Go.Proofs.Ytekoniaobmapdab
open Go.RowKit SumPlain
set_option linter.unusedVariables false
set_option linter.unusedSimpArgs false

theorem OwnR.octs4 (w : World) (l : List Int) (hl : l.length = 4) : OwnB (w.alloc (.cells (l.map (Value.int .u8)).toArray 5)) w.heap.size (.slice (some ⟨w.heap.size, 0, none⟩) 4 4) l := by
  unfold OwnB
  rw [hl]
  have := World.ownsRow_lit (base := w.heap.size) (e := 5) (size := 1) w (l.map (Value.int .u8)).toArray 4 (Nat.le_refl _) (by unfold maxLen; omega) (by simp [hl])
  simpa using this
set_option maxRecDepth 100000 in
theorem refFour_any (n : Nat) (w : World) (hn : n < 4294967296) :
    Calls Try.prog 23 #[.int .i64 n] w fun e w' => e = .returned (.slice (some ⟨w.heap.size, 0, none⟩) 4 4) ∧ w' = w.alloc (.cells #[.int .u8 ((n / 16777216 % 256 : Nat) : Int), .int .u8 ((n / 65536 % 256 : Nat) : Int), .int .u8 ((n / 256 % 256 : Nat) : Int), .int .u8 ((n % 256 : Nat) : Int)] 5) := by
  go_enter Try.func23, Try.ntmps23
  go_wp2
  go_ret
  refine ⟨rfl, ?_⟩
  rw [show ((n / 16777216 % 256 : Nat) : Int) = (n : Int) / 16777216 by omega, show ((n / 65536 % 256 : Nat) : Int) = (n : Int) / 65536 % 256 by omega, show ((n / 256 % 256 : Nat) : Int) = (n : Int) / 256 % 256 by omega, show ((n % 256 : Nat) : Int) = (n : Int) % 256 by omega]
theorem refFour_own (n : Nat) (w : World) (hn : n < 4294967296) :
    Calls Try.prog 23 #[.int .i64 n] w fun e w' => ∃ a c, e = .returned (.slice a 4 c) ∧ Hid (OwnB w' w.heap.size (.slice a 4 c) (fourL n)) ∧ Hid (Below w.heap.size w w') := by
  refine (refFour_any n w hn).mono ?_
  rintro e w' ⟨rfl, rfl⟩
  refine ⟨_, _, rfl, ?_, up_alloc _ _⟩
  exact OwnR.octs4 w (fourL n) rfl

theorem ents_mid {W : World} {b off c : Nat} {l : List En} (h : EntsR W (.slice (some ⟨b, off, none⟩) l.length c) l) (p q : Nat) (hp : p ≤ q) (hq : q ≤ l.length) (hlt : p < l.length) : EntsR W (.slice (if c = p then some ⟨b, off, none⟩ else some ⟨b, off + p * 4, none⟩) (q - p) (c - p)) ((l.drop p).take (q - p)) := by
  obtain ⟨a0, c0, e, hc, hm⟩ := h.len
  simp only [Value.slice.injEq] at e
  have hcc : l.length ≤ c := by rw [e.2.2]; exact hc
  clear e hc hm a0 c0
  rw [if_neg (by omega)]
  obtain ⟨h1, a, cap, e, h2, h3, h4, h5⟩ := h
  simp only [Value.slice.injEq, List.length_map] at e
  obtain ⟨rfl, _, rfl⟩ := e
  obtain ⟨b', off', e2, hcell⟩ := h5 (by intro e0; rw [List.map_eq_nil_iff] at e0; rw [e0] at hlt; simp at hlt)
  simp only [Option.some.injEq, Addr.mk.injEq] at e2
  obtain ⟨rfl, rfl, _⟩ := e2
  refine ⟨?_, some ⟨b, off + p * 4, none⟩, c - p, ?_, ?_, by omega, (fun q => by cases q), ?_⟩
  · intro cs hcs
    obtain ⟨x, _, rfl⟩ := List.mem_map.1 hcs
    rfl
  · simp; omega
  · simp; omega
  · intro _
    refine ⟨b, off + p * 4, rfl, fun j cs hj i u hi => ?_⟩
    rw [List.getElem?_map] at hj
    cases hx : ((l.drop p).take (q - p))[j]? with
    | none => rw [hx] at hj; simp at hj
    | some y =>
      rw [hx] at hj
      simp at hj
      subst hj
      have hy : l[p + j]? = some y := by
        rw [List.getElem?_take] at hx
        split at hx
        · rw [List.getElem?_drop] at hx; exact hx
        · cases hx
      have := hcell (p + j) (enRow y) (by rw [List.getElem?_map, hy]; rfl) i u hi
      rw [show off + p * 4 + j * 4 + i = off + (p + j) * 4 + i by omega]
      exact this
end Go.Proofs.Ytekoniaobmapdab

/- A table with one octet that is another one. -/
namespace Go.Proofs.Ytekoniaobmapdab
open Go.RowKit SumPlain
set_option linter.unusedVariables false

theorem buildB_ok {l : List En} {b : List Int} (h : buildB l = (b, 0)) : chkT l = 0 ∧ tabO l = b := by
  unfold buildB at h
  by_cases hc : chkT l = 0
  · rw [if_pos hc] at h
    simp only [Prod.mk.injEq, and_true] at h
    exact ⟨hc, h⟩
  · rw [if_neg hc] at h
    simp only [Prod.mk.injEq] at h
    exact absurd h.2 hc
theorem frame_oct (k : Int) (l : List Int) (hk : 0 ≤ k ∧ k ≤ 255) (hl : ∀ x ∈ l, 0 ≤ x ∧ x ≤ 255) (hn : l.length ≤ 65536) : ∀ x ∈ frameOf k l, 0 ≤ x ∧ x ≤ 255 := by
  refine guard_octet _ ?_
  intro x hx
  rcases List.mem_append.1 hx with q | q
  · exact (octets_form (l.length : Int) (by omega) (by omega)).octet x q
  · rcases List.mem_cons.1 q with rfl | q
    · exact hk
    · exact hl x q

theorem idxE_oct {c : List En} (h : chkB c = 0) : ∀ x ∈ idxE c, 0 ≤ x ∧ x ≤ 255 := by
  intro x hx
  unfold idxE at hx
  have hl := encB_len' c
  have hf := firstT_len h
  rcases List.mem_append.1 hx with q | q
  · exact (octets_form ((encB c).1.length : Int) (by omega) (by omega)).octet x q
  · rcases List.mem_append.1 q with q | q
    · exact (octets_form ((firstT c).length : Int) (by omega) (by omega)).octet x q
    · unfold firstT at q
      cases c with
      | nil => cases q
      | cons y r => exact nums_octet y.key x q
theorem idxT_oct {l : List En} (h : chkT l = 0) : ∀ x ∈ idxT l (manyT l), 0 ≤ x ∧ x ≤ 255 := by
  obtain ⟨h1, h2, h3⟩ := chkT_ok h
  intro x hx
  unfold idxT at hx
  obtain ⟨j, hj, q⟩ := List.mem_flatMap.1 hx
  exact idxE_oct (chunk_chk h3 (many_le.1 j (List.mem_range.1 hj))) x q
theorem keysT_len' : ∀ (l : List En) (p : Option (List Int)), (keysT p l).length ≤ l.length
  | [], p => by simp [keysT]
  | x :: r, p => by
    have := keysT_len' r (some (nums x.key))
    simp only [keysT, List.length_append, List.length_cons]
    cases sameKT p (nums x.key) <;> simp <;> omega
theorem fil_may {l : List En} (h : chkT l = 0) : mayB (filT l).1 (filT l).2.length = true ∧ encL (filT l).1 (filT l).2 = (filT l).1 :: (filT l).2 ∧ OctL (filT l).2 ∧ 1 ≤ (filT l).1 ∧ (filT l).1 ≤ 8 ∧ (filT l).2.length ≤ 8192 := by
  obtain ⟨h1, h2, h3⟩ := chkT_ok h
  have hk := keysT_len' l none
  have he : errM 10 (keysT none l).length = 0 := by unfold errM; rw [if_neg (by decide), if_neg (by omega)]
  have hm := (make_may he).1
  have hle := may_le hm
  refine ⟨hm, ?_, makeR_oct _ _, hle.1, hle.2.1, hle.2.2.2⟩
  unfold encL
  rw [show mayB (filT l).1 (filT l).2.length = true from hm]
  rfl
theorem fr2_oct {l : List En} (h : chkT l = 0) : ∀ x ∈ fr2 l, 0 ≤ x ∧ x ≤ 255 := by
  have := (fr2_len h).2
  exact frame_oct 2 _ (by decide) (idxT_oct h) (by omega)
theorem fr3_oct {l : List En} (h : chkT l = 0) : (∀ x ∈ fr3 l, 0 ≤ x ∧ x ≤ 255) ∧ (encL (filT l).1 (filT l).2).length ≤ 8193 := by
  obtain ⟨_, he, ho, k1, k2, kl⟩ := fil_may h
  have hl : (encL (filT l).1 (filT l).2).length ≤ 8193 := by rw [he]; simp; omega
  refine ⟨frame_oct 3 _ (by decide) ?_ (by omega), hl⟩
  rw [he]
  intro x hx
  rcases List.mem_cons.1 hx with rfl | q
  · omega
  · exact ho x q
theorem foot_oct (a t n : Nat) : ∀ x ∈ footO a t n, 0 ≤ x ∧ x ≤ 255 := by
  refine guard_octet _ ?_
  intro x hx
  rcases List.mem_append.1 hx with q | q
  · simp at q; omega
  · rcases List.mem_append.1 q with q | q
    · exact four_oct a x q
    · rcases List.mem_append.1 q with q | q
      · exact four_oct t x q
      · exact four_oct n x q
theorem blkT_oct (l : List En) (m : Nat) : ∀ x ∈ blkT l m, 0 ≤ x ∧ x ≤ 255 := by
  intro x hx
  unfold blkT at hx
  obtain ⟨j, _, q⟩ := List.mem_flatMap.1 hx
  exact encB_oct _ x q
theorem tab_oct {l : List En} (h : chkT l = 0) : ∀ x ∈ tabO l, 0 ≤ x ∧ x ≤ 255 := by
  intro x hx
  unfold tabO at hx
  rcases List.mem_append.1 hx with q | q
  · exact blkT_oct l _ x q
  · rcases List.mem_append.1 q with q | q
    · exact fr2_oct h x q
    · rcases List.mem_append.1 q with q | q
      · exact (fr3_oct h).1 x q
      · exact foot_oct _ _ _ x q
end Go.Proofs.Ytekoniaobmapdab

/- The document's own Put: what it answers for any record. -/
namespace Go.Proofs.Ytekoniaobmapdab
open Go.RowKit SumPlain
set_option linter.unusedVariables false
set_option maxRecDepth 20000

/-- varint.Put from any later world; what the box holds stays. -/
theorem rput_from {w : World} (x y : Value) (n : Int) (h0 : 0 ≤ n) (h1 : n ≤ 18446744073709551615) (wx : World) (hb : Below (w.heap.size + 1) (w.alloc (.cells #[x, y] 54)) wx) :
    Calls Try.prog 18 #[.int .u64 n] wx fun e w' => ∃ v, e = .returned v ∧ w'.cell? ⟨w.heap.size, 0, none⟩ = some x ∧ w'.cell? ⟨w.heap.size, 1, none⟩ = some y ∧
      Hid (∀ o, (w'.alloc o).cell? ⟨w.heap.size, 0, none⟩ = some x ∧ (w'.alloc o).cell? ⟨w.heap.size, 1, none⟩ = some y) ∧ Hid (OwnB w' (w.heap.size + 1) v (octets n)) ∧ Hid (w.heap.size + 1 ≤ w'.heap.size) ∧ Hid (Below wx.heap.size wx w') ∧ Hid (Below (w.heap.size + 1) (w.alloc (.cells #[x, y] 54)) w') := by
  refine (refPut_any n wx h0 h1).mono ?_
  rintro e w' ⟨v, rfl, ho, hb'⟩
  have hs := hb.size
  simp at hs
  have h2 := hb.trans (hb'.mono hs)
  have h3 : ∀ o, Below (w.heap.size + 1) (w.alloc (.cells #[x, y] 54)) (w'.alloc o) := fun o => h2.alloc (by have := h2.size; simpa using this) o
  refine ⟨v, rfl, ?_, ?_, fun o => ⟨?_, ?_⟩, OwnB.mono ho hs, Nat.le_trans hs hb'.size, hb', h2⟩
  · rw [h2.cell (by simp)]; simp [go_sem]
  · rw [h2.cell (by simp)]; simp [go_sem]
  · rw [(h3 o).cell (by simp)]; simp [go_sem]
  · rw [(h3 o).cell (by simp)]; simp [go_sem]

set_option maxHeartbeats 1000000 in
theorem rput_good (k : Int) (a : Option Addr) (c : Nat) (l : List Int) (w : World) (hv : Octs w (.slice a l.length c) l) (h0 : 0 ≤ k) (h1 : k ≤ 255) (hl : l.length ≤ 65536) :
    Calls Try.prog 19 #[.agg #[.int .i64 k, .slice a l.length c]] w fun e w' => ∃ v', e = .returned (.tuple #[v', .int .i64 0]) ∧ OwnB w' w.heap.size v' (frameOf k l) ∧ Below w.heap.size w w' := by
  have HV : Hid (Octs w (.slice a l.length c) l) := hv
  clear hv
  have g0 : ¬ k < 0 := by omega
  have g1 : ¬ 255 < k := by omega
  have g2 : ¬ (65536 : Int) < (l.length : Int) := by omega
  have g3 : IntKind.u64.wrap (l.length : Int) = (l.length : Int) := wrap_u64_id _ (by omega) (by omega)
  have g4 : IntKind.u8.wrap k = k := by simp [IntKind.wrap, IntKind.bits, IntKind.signed]; omega
  have HL : Hid ((octets (l.length : Int)).length ≤ 9) := (octets_len _ (by omega) (by omega)).2
  have HL2 : Hid ((octets (l.length : Int)).length + [k].length ≤ 140737488355328) := by have := HL.out; unfold Hid; simp; omega
  have HP : Hid (∀ (wx : World), Below (w.heap.size + 1) (w.alloc (.cells #[.int .i64 k, .slice a l.length c] 54)) wx → Calls Try.prog 18 #[.int .u64 (l.length : Int)] wx fun e w' => ∃ v, e = .returned v ∧ w'.cell? ⟨w.heap.size, 0, none⟩ = some (.int .i64 k) ∧ w'.cell? ⟨w.heap.size, 1, none⟩ = some (.slice a l.length c) ∧
      Hid (∀ o, (w'.alloc o).cell? ⟨w.heap.size, 0, none⟩ = some (.int .i64 k) ∧ (w'.alloc o).cell? ⟨w.heap.size, 1, none⟩ = some (.slice a l.length c)) ∧ Hid (OwnB w' (w.heap.size + 1) v (octets (l.length : Int))) ∧ Hid (w.heap.size + 1 ≤ w'.heap.size) ∧ Hid (Below wx.heap.size wx w') ∧ Hid (Below (w.heap.size + 1) (w.alloc (.cells #[.int .i64 k, .slice a l.length c] 54)) w')) := fun wx hb => rput_from _ _ _ (by omega) (by omega) wx hb
  have HB0 : Hid (Below (w.heap.size + 1) (w.alloc (.cells #[.int .i64 k, .slice a l.length c] 54)) (w.alloc (.cells #[.int .i64 k, .slice a l.length c] 54)).drew) := (Below.refl _ _).drew
  have HB1 : Hid (∀ o, Below (w.heap.size + 1) (w.alloc (.cells #[.int .i64 k, .slice a l.length c] 54)) ((w.alloc (.cells #[.int .i64 k, .slice a l.length c] 54)).alloc o).drew) := fun o => ((Below.refl _ _).alloc (by simp) o).drew
  have HO : Hid (∀ o : Obj, Octs ((w.alloc o).alloc (.cells #[.int .u8 k] 5)).drew (.slice (some ⟨w.heap.size + 1, 0, none⟩) 1 1) [k]) := fun o => by have := (one_made (w.alloc o) k h0 h1).up (up_dr (Below.refl _ _)); simpa using this
  have HE : Hid (frameOf k l = guardOf (octets (l.length : Int) ++ k :: l)) := rfl
  go_enter Try.func19, Try.ntmps19
  go_wp2_with fail
  go_region_held3 (fun w' => w'.cell? ⟨w.heap.size, 0, none⟩ = some (.int .i64 k) ∧ w'.cell? ⟨w.heap.size, 1, none⟩ = some (.slice a l.length c)) (first | with_reducible exact ⟨z0, z1⟩ | with_reducible exact ⟨y0, y1⟩ | with_reducible exact yy.out _ | (simp [go_sem, y0, y1]; done) | (simp [go_sem]; done)) (first
    | (go_at_call 18; with_reducible refine (HP.out _ HB0.out).mono ?_; rintro e w' ⟨v, rfl, y0, y1, yy, ho, sz, hx, hb⟩)
    | (go_at_call 18; with_reducible refine (HP.out _ (HB1.out _)).mono ?_; rintro e w' ⟨v, rfl, y0, y1, yy, ho, sz, hx, hb⟩)
    | (refine step_append_octs _ (by rfl) _ _ (by rfl) (w.heap.size + 1) v (octets (l.length : Int)) (by rfl) (by with_reducible exact ho.out) (.slice (some ⟨w.heap.size + 1, 0, none⟩) 1 1) [k] (by rfl) (by exact (HO.out _).up hx.out) HL2.out sz.out ?_; intro v3 w3 o3 g3; have z0 := far_cell ho.out g3 (Nat.lt_succ_self _) sz.out y0; have z1 := far_cell ho.out g3 (Nat.lt_succ_self _) sz.out y1; obtain ⟨a3, n3, c3, rfl, N3⟩ := own_shape o3; have HB3 : Hid (Below (w.heap.size + 1) (w.alloc (.cells #[.int .i64 k, .slice a l.length c] 54)) w3) := hb.out.grown g3 sz.out (fun j hj => (ho.out.lt j hj).1); have O3 : Hid (OwnB w3 (w.heap.size + 1) (.slice a3 n3 c3) (octets (l.length : Int) ++ [k])) := o3; clear o3 g3)
    | (refine step_append_octs _ (by rfl) _ _ (by rfl) (w.heap.size + 1) v (octets (l.length : Int)) (by rfl) (own_up ho.out (up_alloc _ _)) (.slice (some ⟨w'.heap.size, 0, none⟩) 1 1) [k] (by rfl) (one_made _ k h0 h1) HL2.out (le_al sz.out _) ?_; intro v3 w3 o3 g3; have z0 := far_cell (own_up ho.out (up_alloc _ _)) g3 (Nat.lt_succ_self _) (le_al sz.out _) (yy.out _).1; have z1 := far_cell (own_up ho.out (up_alloc _ _)) g3 (Nat.lt_succ_self _) (le_al sz.out _) (yy.out _).2; obtain ⟨a3, n3, c3, rfl, N3⟩ := own_shape o3; have HB3 : Hid (Below (w.heap.size + 1) (w.alloc (.cells #[.int .i64 k, .slice a l.length c] 54)) w3) := (hb.out.alloc sz.out _).grown g3 (le_al sz.out _) (fun j hj => (ho.out.lt j hj).1); have O3 : Hid (OwnB w3 (w.heap.size + 1) (.slice a3 n3 c3) (octets (l.length : Int) ++ [k])) := o3; clear o3 g3))
  all_goals
    have HU3 : Hid (Below w.heap.size w w3) := (up_alloc w _).trans (HB3.out.mono (by omega))
    have HV3 : Hid (Octs w3 (.slice a l.length c) l) := HV.out.up HU3.out
    have S3 : Hid (w.heap.size + 1 ≤ w3.heap.size) := by have := HB3.out.size; unfold Hid; simpa using this
    have HL3 : Hid ((octets (l.length : Int) ++ [k]).length + l.length ≤ 140737488351232) := by have := HL.out; unfold Hid; simp; omega
    have HX : Hid (∀ x ∈ octets (l.length : Int) ++ k :: l, 0 ≤ x ∧ x ≤ 255) := by
      intro x hx
      rcases List.mem_append.1 hx with hx | hx
      · exact (octets_form _ (by omega) (by omega)).octet x hx
      · rcases List.mem_cons.1 hx with hx | hx
        · omega
        · exact HV.out.1 x hx
    clear HB3 HL2 HP HB0 HB1 HO g4 N3
    go_wp2_with (at_builtin; refine wpList_append_octs _ rfl _ _ rfl (w.heap.size + 1) _ _ rfl O3.out _ l rfl HV3.out ?c1 S3.out ?_)
    case c1 => have := HL3.out; omega
    intro v4 w4 o4 g4
    have HB4 : Hid (Below w.heap.size w w4) := HU3.out.grown g4 (by have := S3.out; omega) (fun j hj => by have := (O3.out.lt j hj).1; omega)
    obtain ⟨a4, c4, e4, _⟩ := own_len o4
    generalize hn4 : (octets (l.length : Int) ++ k :: l).length = n4 at e4
    subst e4
    have O4 : Hid (Octs w4 (.slice a4 n4 c4) (octets (l.length : Int) ++ k :: l)) := Octs.own o4 HX.out
    clear o4 g4 O3 hn4
    go_wp2_with fail
    refine (refGuard_any _ _ _ O4.out (by have := HL3.out; simp at this ⊢; omega)).mono ?_
    rintro e w5 ⟨v5, rfl, o5, b5⟩
    obtain ⟨a5, c5, e5, _⟩ := own_len o5
    generalize hn5 : (guardOf (octets (l.length : Int) ++ k :: l)).length = n5 at e5
    subst e5
    have O5 : Hid (OwnB w5 w.heap.size (.slice a5 n5 c5) (frameOf k l)) := OwnB.mono o5 HB4.out.size
    have HB5 : Hid (Below w.heap.size w w5) := HB4.out.trans (b5.mono HB4.out.size)
    clear o5 b5 hn5
    go_wp2
    go_ret2
    exact ⟨_, rfl, O5.out, HB5.out⟩
end Go.Proofs.Ytekoniaobmapdab
