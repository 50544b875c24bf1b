/- Texts of layers 1 to 13, in this order. -/
import Derived.Test.YthiegmhplnbdlaaGreatG20
import Derived.Test.YthiegmhplnbdlaaGreatG08
import Derived.Deep.QuietTactic
import Derived.BigQuiet

namespace Go.Proofs.YthiegmhplnbdlaaGreat
open Go.RowKit
set_option linter.unusedVariables false
set_option linter.unusedSimpArgs false
theorem hid {p : Prop} (h : p) : Hid p := h
theorem cellAl {w : World} {a : Addr} {x : Value} (h : w.cell? a = some x) (o : Obj) : (w.alloc o).cell? a = some x := by
  have := (up_alloc w o).cell (World.block_lt_of_cell? w a h)
  rw [this]
  exact h
theorem idx70 (n0 n1 n2 n3 : Int) (w : World) : (Instr.index 189 (.agg #[.int .i64 n0, .int .i64 n1, .int .i64 n2, .int .i64 n3]) (.int .i64 0)).run Tryz.prog w = .ok (.int .i64 n0) w ∧ (Instr.index 189 (.agg #[.int .i64 n0, .int .i64 n1, .int .i64 n2, .int .i64 n3]) (.int .i64 1)).run Tryz.prog w = .ok (.int .i64 n1) w ∧ (Instr.index 189 (.agg #[.int .i64 n0, .int .i64 n1, .int .i64 n2, .int .i64 n3]) (.int .i64 2)).run Tryz.prog w = .ok (.int .i64 n2) w ∧ (Instr.index 189 (.agg #[.int .i64 n0, .int .i64 n1, .int .i64 n2, .int .i64 n3]) (.int .i64 3)).run Tryz.prog w = .ok (.int .i64 n3) w := ⟨by kernel_rfl, by kernel_rfl, by kernel_rfl, by kernel_rfl⟩
def BoxN (W : World) (N : Nat) (x : En) : Prop := W.heap[N]? = some (enObj x)
def noneO : Obj := .cells #[.slice none 0 0, .slice none 0 0] 39
theorem errP_empty (x : En) : errP emptyS x 1 = if mayE x then 0 else 1 := by
  unfold errP
  rw [(checkS_iff emptyS).2 emptyS_good]
  cases mayE x
  · rfl
  · rfl
theorem BoxN.up {W W' : World} {N : Nat} {x : En} (h : BoxN W N x) (hb : Below W.heap.size W W') : BoxN W' N x := blk_up h hb
theorem BoxN.cells {W : World} {N : Nat} {x : En} (h : BoxN W N x) : W.cell? ⟨N, 0, none⟩ = some (.string x.key) ∧ W.cell? ⟨N, 1, none⟩ = some (.int .i64 x.seq) ∧ W.cell? ⟨N, 2, none⟩ = some (.int .i64 x.kind) ∧ W.cell? ⟨N, 3, none⟩ = some (.string x.val) :=
  ⟨blk_cell h 0 _ rfl, blk_cell h 1 _ rfl, blk_cell h 2 _ rfl, blk_cell h 3 _ rfl⟩
def NewAt (W w' : World) (N : Nat) (x : En) (a : Option Addr) (c : Nat) (a2 : Option Addr) (c2 : Nat) : Prop := BoxN w' N x ∧ SkE w' (.slice a 0 c) (.slice a2 8 c2) emptyS [] ∧ Below W.heap.size W w'
theorem newC (x : En) (N : Nat) (W : World) (h : BoxN W N x) : Calls Tryz.prog 8 #[] W fun e w' => ∃ a c a2 c2, e = .returned (.agg #[.slice a 0 c, .slice a2 8 c2]) ∧ w'.cell? ⟨N, 0, none⟩ = some (.string x.key) ∧ w'.cell? ⟨N, 1, none⟩ = some (.int .i64 x.seq) ∧ w'.cell? ⟨N, 2, none⟩ = some (.int .i64 x.kind) ∧ w'.cell? ⟨N, 3, none⟩ = some (.string x.val) ∧ N ≠ w'.heap.size ∧ w'.heap.size ≠ N ∧ Hid (NewAt W w' N x a c a2 c2) := by
  refine (new_any W).mono ?_
  rintro e w' ⟨a, c, a2, c2, rfl, ho, hb⟩
  have hB := h.up hb.out
  obtain ⟨c0, c1, c3, c4⟩ := hB.cells
  have hlt : N < w'.heap.size := blk_lt hB
  exact ⟨a, c, a2, c2, rfl, c0, c1, c3, c4, by omega, by omega, hB, ho.out.read, hb.out⟩
theorem putC (x : En) (N : Nat) (W0 W : World) (a : Option Addr) (c : Nat) (a2 : Option Addr) (c2 : Nat) (h : NewAt W0 W N x a c a2 c2) : Calls Tryz.prog 11 #[.agg #[.slice a 0 c, .slice a2 8 c2], .agg #[.string x.key, .int .i64 x.seq, .int .i64 x.kind, .string x.val], .int .i64 1] W fun e w' => ∃ b n d b2 n2 d2, e = .returned (.tuple #[.agg #[.slice b n d, .slice b2 n2 d2], .int .i64 (if mayE x then 0 else 1)]) ∧ w'.cell? ⟨N, 0, none⟩ = some (.string x.key) ∧ w'.cell? ⟨N, 1, none⟩ = some (.int .i64 x.seq) ∧ w'.cell? ⟨N, 2, none⟩ = some (.int .i64 x.kind) ∧ w'.cell? ⟨N, 3, none⟩ = some (.string x.val) ∧ Hid (Below W0.heap.size W0 w') := by
  refine (putS_any emptyS [] _ _ x 1 W h.2.1).mono ?_
  rintro e w' ⟨vN, vH, t, es, rfl, ho, hb⟩
  obtain ⟨⟨b, d, rfl⟩, ⟨b2, d2, rfl⟩⟩ := ho.out.1.read.form
  obtain ⟨c0, c1, c3, c4⟩ := (h.1.up hb.out).cells
  exact ⟨b, _, d, b2, _, d2, by rw [errP_empty], c0, c1, c3, c4, up_trans h.2.2 hb.out⟩
theorem NewAt.al {W0 W : World} {N : Nat} {x : En} {a : Option Addr} {c : Nat} {a2 : Option Addr} {c2 : Nat} (h : NewAt W0 W N x a c a2 c2) (o : Obj) : NewAt W0 (W.alloc o) N x a c a2 c2 :=
  ⟨h.1.up (up_alloc _ _), h.2.1.up (up_alloc _ _), up_al h.2.2 _⟩
theorem none_up {W w' : World} {T : Nat} (hT : W.heap[T]? = some noneO) (hb : Below W.heap.size W w') : w'.cell? ⟨T, 0, none⟩ = some (.slice none 0 0) ∧ w'.cell? ⟨T, 1, none⟩ = some (.slice none 0 0) ∧ w'.frozen? ⟨T, 0, none⟩ = false ∧ w'.frozen? ⟨T, 1, none⟩ = false := by
  have h := blk_up hT hb
  exact ⟨blk_cell h 0 _ rfl, blk_cell h 1 _ rfl, blk_frozen h 0, blk_frozen h 1⟩
theorem newT (x : En) (N T : Nat) (W : World) (h : BoxN W N x) (hT : W.heap[T]? = some noneO) : Calls Tryz.prog 8 #[] W fun e w' => ∃ a c a2 c2, e = .returned (.agg #[.slice a 0 c, .slice a2 8 c2]) ∧ w'.cell? ⟨N, 0, none⟩ = some (.string x.key) ∧ w'.cell? ⟨N, 1, none⟩ = some (.int .i64 x.seq) ∧ w'.cell? ⟨N, 2, none⟩ = some (.int .i64 x.kind) ∧ w'.cell? ⟨N, 3, none⟩ = some (.string x.val) ∧ w'.cell? ⟨T, 0, none⟩ = some (.slice none 0 0) ∧ w'.cell? ⟨T, 1, none⟩ = some (.slice none 0 0) ∧ w'.frozen? ⟨T, 0, none⟩ = false ∧ w'.frozen? ⟨T, 1, none⟩ = false ∧ Hid (NewAt W w' N x a c a2 c2) ∧ Hid (w'.heap[T]? = some noneO) := by
  refine (newC x N W h).mono ?_
  rintro e w' ⟨a, c, a2, c2, rfl, c0, c1, c3, c4, _, _, hn⟩
  obtain ⟨t0, t1, f0, f1⟩ := none_up hT hn.out.2.2
  exact ⟨a, c, a2, c2, rfl, c0, c1, c3, c4, t0, t1, f0, f1, hn, blk_up hT hn.out.2.2⟩
theorem putT (x : En) (N T : Nat) (W0 W : World) (a : Option Addr) (c : Nat) (a2 : Option Addr) (c2 : Nat) (h : NewAt W0 W N x a c a2 c2) (hT : W.heap[T]? = some noneO) : Calls Tryz.prog 11 #[.agg #[.slice a 0 c, .slice a2 8 c2], .agg #[.string x.key, .int .i64 x.seq, .int .i64 x.kind, .string x.val], .int .i64 1] W fun e w' => ∃ b n d b2 n2 d2, e = .returned (.tuple #[.agg #[.slice b n d, .slice b2 n2 d2], .int .i64 (if mayE x then 0 else 1)]) ∧ w'.cell? ⟨N, 0, none⟩ = some (.string x.key) ∧ w'.cell? ⟨N, 1, none⟩ = some (.int .i64 x.seq) ∧ w'.cell? ⟨N, 2, none⟩ = some (.int .i64 x.kind) ∧ w'.cell? ⟨N, 3, none⟩ = some (.string x.val) ∧ w'.cell? ⟨T, 0, none⟩ = some (.slice none 0 0) ∧ w'.cell? ⟨T, 1, none⟩ = some (.slice none 0 0) ∧ w'.frozen? ⟨T, 0, none⟩ = false ∧ w'.frozen? ⟨T, 1, none⟩ = false ∧ Hid (Below W0.heap.size W0 w') := by
  refine (putS_any emptyS [] _ _ x 1 W h.2.1).mono ?_
  rintro e w' ⟨vN, vH, t, es, rfl, ho, hb⟩
  obtain ⟨⟨b, d, rfl⟩, ⟨b2, d2, rfl⟩⟩ := ho.out.1.read.form
  obtain ⟨c0, c1, c3, c4⟩ := (h.1.up hb.out).cells
  obtain ⟨t0, t1, f0, f1⟩ := none_up hT hb.out
  exact ⟨b, _, d, b2, _, d2, by rw [errP_empty], c0, c1, c3, c4, t0, t1, f0, f1, up_trans h.2.2 hb.out⟩
set_option maxHeartbeats 2000000 in
set_option maxRecDepth 100000 in
theorem mayP_any (x : En) (w : World) : Calls Tryz.prog 90 #[enV x] w fun e w' => e = .returned (.bool (mayE x)) ∧ Hid (Below w.heap.size w w') := by
  have hbox : BoxN (w.alloc (enObj x)) w.heap.size x := blk_new w _
  have HN1 := newC x w.heap.size (w.alloc (enObj x)).drew (hbox.up (up_drewN _ 1))
  have HN2 := newT x w.heap.size (w.heap.size + 1) ((w.alloc (enObj x)).alloc noneO).drew ((hbox.up (up_alloc _ _)).up (up_drewN _ 1)) (blk_up (by have := blk_new (w.alloc (enObj x)) noneO; simpa using this) (up_drewN _ 1))
  have HP := putC x w.heap.size
  have HP2 := putT x w.heap.size (w.heap.size + 1)
  have HP3 := fun (W0 W : World) (a : Option Addr) (c : Nat) (a2 : Option Addr) (c2 : Nat) (h : NewAt W0 W w.heap.size x a c a2 c2) => putT x w.heap.size W.heap.size W0 (W.alloc noneO) a c a2 c2 (h.al _) (blk_new _ _)
  have HU1 : Hid (Below w.heap.size w (w.alloc (enObj x)).drew) := up_trans (up_alloc _ _) (up_drewN _ 1)
  have HU2 : Hid (Below w.heap.size w ((w.alloc (enObj x)).alloc noneO).drew) := up_trans (up_al (up_alloc _ _) _) (up_drewN _ 1)
  generalize hq : (if mayE x then (0 : Int) else 1) = q at HP HP2 HP3
  have HQ : Hid ((if mayE x then (0 : Int) else 1) = q) := hq
  have hq2 : (q == 0) = mayE x := by rw [← hq]; cases mayE x <;> rfl
  clear hq hbox
  unfold enV
  unfold enObj at HN1 HN2 HU1 HU2
  unfold noneO at HN2 HP2 HP3 HU2
  replace HN1 := hid HN1
  replace HN2 := hid HN2
  replace HP := hid HP
  replace HP2 := hid HP2
  replace HP3 := hid HP3
  go_enter Tryz.func90, Tryz.ntmps90
  go_wp2_with fail
  go_region_held3 (fun w' => w'.cell? ⟨w.heap.size, 0, none⟩ = some (.string x.key) ∧ w'.cell? ⟨w.heap.size, 1, none⟩ = some (.int .i64 x.seq) ∧ w'.cell? ⟨w.heap.size, 2, none⟩ = some (.int .i64 x.kind) ∧ w'.cell? ⟨w.heap.size, 3, none⟩ = some (.string x.val)) (first | with_reducible exact ⟨y0, y1, y2, y3⟩ | exact ⟨cellAl y0 _, cellAl y1 _, cellAl y2 _, cellAl y3 _⟩ | (simp [go_sem]; done) | (simp [go_sem, y0, y1, y2, y3]; done) | (simp [go_sem, y0, y1, y2, y3, n1, n2]; done)) (first
    | (go_at_call 8; with_reducible refine HN1.out.mono ?_; rintro e w1 ⟨a, c, a2, c2, rfl, y0, y1, y2, y3, n1, n2, h1⟩)
    | (go_at_call 8; with_reducible refine HN2.out.mono ?_; rintro e w1 ⟨a, c, a2, c2, rfl, y0, y1, y2, y3, t0, t1, f0, f1, h1, hT⟩)
    | (go_at_call 11; with_reducible refine (HP2.out _ _ _ _ _ _ h1.out hT.out).mono ?_; rintro e w2 ⟨b, n, d, b2, n2, d2, rfl, y0, y1, y2, y3, t0, t1, f0, f1, h2⟩)
    | (go_at_call 11; with_reducible refine (HP.out _ _ _ _ _ _ h1.out).mono ?_; rintro e w2 ⟨b, n, d, b2, n2, d2, rfl, y0, y1, y2, y3, h2⟩)
    | (go_at_call 11; with_reducible refine (HP3.out _ _ _ _ _ _ h1.out).mono ?_; rintro e w2 ⟨b, n, d, b2, n2, d2, rfl, y0, y1, y2, y3, t0, t1, f0, f1, h2⟩))
  all_goals
    go_wp2_with fail
    go_ret
  · exact ⟨rfl, up_al (up_trans HU1.out h2.out) _⟩
  · have u := up_trans HU1.out h2.out
    have s1 := (up_trans HU1.out h1.out.2.2).size
    exact ⟨rfl, u.grown (set2_grown w2 w1.heap.size _ _) u.size (fun k hk => by injection hk with hk; rw [← hk]; omega)⟩
  · have u := up_trans HU2.out h2.out
    exact ⟨rfl, u.grown (set2_grown w2 (w.heap.size + 1) _ _) u.size (fun k hk => by injection hk with hk; rw [← hk]; omega)⟩
end Go.Proofs.YthiegmhplnbdlaaGreat

namespace Go.Proofs.YthiegmhplnbdlaaGreat
open Go.RowKit SumPlain
set_option linter.unusedVariables false
set_option linter.unusedSimpArgs false
theorem beforeP (a b : En) (x : Bool) (h : beforeE a b = x) (w : World) : Calls Tryz.prog 33 #[enV a, enV b] w fun e w' => e = .returned (.bool x) ∧ Below w.heap.size w w' := by
  refine (before_any a b w).mono ?_
  rintro e w' ⟨rfl, rfl⟩
  exact ⟨by rw [h], up_al (up_alloc _ _) _⟩
set_option maxHeartbeats 2000000 in
set_option maxRecDepth 100000 in
theorem checkP_any (l : List En) (v : Value) (w : World) (hv : EntsR w v l) :
    Calls Tryz.prog 63 #[v] w fun e w' => e = .returned (.int .i64 (chkB l)) ∧ Hid (Below w.heap.size w w') := by
  have HV : Hid (EntsR w v l) := hv
  obtain ⟨a, c, rfl, hc, hm⟩ := hv.len
  have hl63 : l.length ≤ 9223372036854775807 := by unfold maxLen at hm; omega
  clear hv
  by_cases c1 : l.length < 1
  · have c1' : (l.length : Int) < 1 := by omega
    have HC : Hid ((3 : Int) = chkB l) := by unfold Hid chkB; rw [if_pos (.inl c1)]
    go_enter Tryz.func63, Tryz.ntmps63
    go_wp2
    go_ret
    exact ⟨ret_int HC.out, Below.refl _ _⟩
  have c1' : ¬ (l.length : Int) < 1 := by omega
  by_cases c2 : 64 < l.length
  · have c2' : (64 : Int) < (l.length : Int) := by omega
    have HC : Hid ((3 : Int) = chkB l) := by unfold Hid chkB; rw [if_pos (.inr c2)]
    go_enter Tryz.func63, Tryz.ntmps63
    go_wp2
    go_ret
    exact ⟨ret_int HC.out, Below.refl _ _⟩
  have c2' : ¬ (64 : Int) < (l.length : Int) := by omega
  have HC : Hid (chkB l = ordE none l) := by unfold Hid chkB; rw [if_neg (by omega)]
  go_enter Tryz.func63, Tryz.ntmps63
  go_wp2_with fail
  go_loopw [15] (fun i wr => ∃ k : Nat, k ≤ l.length ∧ i = .int .i64 k ∧ Hid (chkB l = ordE (prevE l k) (l.drop k)) ∧ Hid (Below w.heap.size w wr)) (fun i _ => l.length - (intOf i).toNat)
  case atStart => exact ⟨0, Nat.zero_le _, rfl, HC, Below.refl _ _⟩
  case round =>
    obtain ⟨k, hk, rfl, HK, HB⟩ := hrel
    clear HC
    by_cases hlt : k < l.length
    · have hlt' : (k : Int) < (l.length : Int) := by omega
      obtain ⟨b, off, cap, x, e, hx, z0, z1, z2, z3⟩ := (HV.out.up HB.out).at k hlt
      simp at e
      obtain ⟨rfl, rfl⟩ := e
      have HO : Hid (ordE (prevE l k) (l.drop k) = if mayE x then (if aheadE (prevE l k) x then ordE (prevE l (k + 1)) (l.drop (k + 1)) else 81) else 1) := ordE_at l k x hx
      have HX : Hid (l[k]? = some x) := hx
      clear hx
      have HMY : Hid (∀ W : World, Calls Tryz.prog 90 #[.agg #[.string x.key, .int .i64 x.seq, .int .i64 x.kind, .string x.val]] W fun e w' => e = .returned (.bool (mayE x)) ∧ Hid (Below W.heap.size W w')) := fun W => mayP_any x W
      have UB : Hid (Below wr.heap.size wr (wr.alloc (enObj x))) := up_alloc _ _
      have BX : Hid (BoxN (wr.alloc (enObj x)) wr.heap.size x) := blk_new _ _
      unfold enObj at UB BX
      cases hmy : mayE x
      · rw [hmy] at HMY
        have HR : Hid (chkB l = 1) := by unfold Hid; rw [HK.out, HO.out, hmy]; rfl
        go_wp2_with fail
        refine (HMY.out _).mono ?_
        rintro e w1 ⟨rfl, u1⟩
        go_wp2_with fail
        go_ret
        exact ⟨ret_int HR.out.symm, up_trans HB.out (up_trans UB.out u1.out)⟩
      · rw [hmy] at HMY
        go_wp2_with fail
        refine (HMY.out _).mono ?_
        rintro e w1 ⟨rfl, u1⟩
        have HB1 : Hid (Below w.heap.size w w1) := up_trans HB.out (up_trans UB.out u1.out)
        have BX1 : Hid (BoxN w1 wr.heap.size x) := BX.out.up u1.out
        clear UB BX u1 z0 z1 z2 z3 HMY
        by_cases h0 : k = 0
        · subst h0
          have HR : Hid (chkB l = ordE (prevE l (0 + 1)) (l.drop (0 + 1))) := by unfold Hid; rw [HK.out, HO.out, hmy]; rfl
          go_wp2_with fail
          go_quiet (fail)
          go_wp2_with fail
          exact ⟨⟨1, by omega, by go_num, HR, up_trans HB1.out (up_drewN _ _)⟩, by simp [intOf]; omega⟩
        · obtain ⟨j, hj⟩ : ∃ j, k = j + 1 := ⟨k - 1, by omega⟩
          obtain ⟨b2, off2, cap2, y, e2, hy, t0, t1, t2, t3⟩ := (HV.out.up HB1.out).at j (by omega)
          simp at e2
          obtain ⟨⟨rfl, rfl⟩, rfl⟩ := e2
          have hjj : (k : Int) - 1 = (j : Int) := by omega
          have hj0 : 0 < k := by omega
          have hwj : IntKind.i64.wrap (j : Int) = (j : Int) := by rw [IntKind.wrap_i64]; omega
          have hjl : (j : Int) < (l.length : Int) := by omega
          have hpe : prevE l k = some y := by unfold prevE; rw [if_neg (by omega), hj]; exact hy
          have HAH : Hid (aheadE (prevE l k) x = beforeE y x) := by unfold Hid aheadE; rw [hpe]
          clear hj
          obtain ⟨m0, m1, m2, m3⟩ := BX1.out.cells
          clear hy hpe BX1
          generalize wr.heap.size = NX at *
          have m0 := cell_up m0
          have m1 := cell_up m1
          have m2 := cell_up m2
          have m3 := cell_up m3
          have n0 := cell_up t0
          have n1 := cell_up t1
          have n2 := cell_up t2
          have n3 := cell_up t3
          have HQ : Hid (∀ x', beforeE y x = x' → ∀ W : World, Calls Tryz.prog 33 #[.agg #[.string y.key, .int .i64 y.seq, .int .i64 y.kind, .string y.val], .agg #[.string x.key, .int .i64 x.seq, .int .i64 x.kind, .string x.val]] W fun e w' => e = .returned (.bool x') ∧ Below W.heap.size W w') := fun x' h W => beforeP y x x' h W
          cases hbf : beforeE y x
          · have HR : Hid (chkB l = 81) := by unfold Hid; rw [HK.out, HO.out, hmy, HAH.out, hbf]; rfl
            have HQ2 := hid (HQ.out false hbf)
            clear HQ hbf
            go_wp2_with fail
            refine wp_region_up (by kernel_rfl) (by kernel_rfl) ?_
            repeat (quiet_step (first | (go_at_call 33; refine calls_up (HQ2.out _))))
            refine wpQuiet_nil ?_
            intro _ hw'
            obtain ⟨p, hw''⟩ := hw'
            subst hw''
            go_wp2_with fail
            go_ret
            exact ⟨ret_int HR.out.symm, up_trans HB1.out p.up⟩
          · have HR : Hid (chkB l = ordE (prevE l (k + 1)) (l.drop (k + 1))) := by unfold Hid; rw [HK.out, HO.out, hmy, HAH.out, hbf]; rfl
            have HQ2 := hid (HQ.out true hbf)
            clear HQ hbf
            go_wp2_with fail
            refine wp_region_up (by kernel_rfl) (by kernel_rfl) ?_
            repeat (quiet_step (first | (go_at_call 33; refine calls_up (HQ2.out _))))
            refine wpQuiet_nil ?_
            intro _ hw'
            obtain ⟨p, hw''⟩ := hw'
            subst hw''
            go_wp2_with fail
            exact ⟨⟨k + 1, by omega, by go_num, HR, up_trans HB1.out p.up⟩, by simp [intOf]; omega⟩
    · have hlt' : ¬ (k : Int) < (l.length : Int) := by omega
      obtain rfl : k = l.length := by omega
      go_wp2_with fail
      go_ret
      refine ⟨ret_int ?_, HB.out⟩
      rw [HK.out, List.drop_length]
      rfl
end Go.Proofs.YthiegmhplnbdlaaGreat

namespace Go.Proofs.YthiegmhplnbdlaaGreat
open Go.RowKit
set_option linter.unusedVariables false
set_option linter.unusedSimpArgs false
set_option maxHeartbeats 2000000 in
set_option maxRecDepth 100000 in
theorem mayP_anyQ (x : En) (w : World) : Calls Tryz.prog 75 #[enV x] w fun e w' => e = .returned (.bool (mayE x)) ∧ Hid (Below w.heap.size w w') := by
  have hbox : BoxN (w.alloc (enObj x)) w.heap.size x := blk_new w _
  have HN1 := newC x w.heap.size (w.alloc (enObj x)).drew (hbox.up (up_drewN _ 1))
  have HN2 := newT x w.heap.size (w.heap.size + 1) ((w.alloc (enObj x)).alloc noneO).drew ((hbox.up (up_alloc _ _)).up (up_drewN _ 1)) (blk_up (by have := blk_new (w.alloc (enObj x)) noneO; simpa using this) (up_drewN _ 1))
  have HP := putC x w.heap.size
  have HP2 := putT x w.heap.size (w.heap.size + 1)
  have HP3 := fun (W0 W : World) (a : Option Addr) (c : Nat) (a2 : Option Addr) (c2 : Nat) (h : NewAt W0 W w.heap.size x a c a2 c2) => putT x w.heap.size W.heap.size W0 (W.alloc noneO) a c a2 c2 (h.al _) (blk_new _ _)
  have HU1 : Hid (Below w.heap.size w (w.alloc (enObj x)).drew) := up_trans (up_alloc _ _) (up_drewN _ 1)
  have HU2 : Hid (Below w.heap.size w ((w.alloc (enObj x)).alloc noneO).drew) := up_trans (up_al (up_alloc _ _) _) (up_drewN _ 1)
  generalize hq : (if mayE x then (0 : Int) else 1) = q at HP HP2 HP3
  have HQ : Hid ((if mayE x then (0 : Int) else 1) = q) := hq
  have hq2 : (q == 0) = mayE x := by rw [← hq]; cases mayE x <;> rfl
  clear hq hbox
  unfold enV
  unfold enObj at HN1 HN2 HU1 HU2
  unfold noneO at HN2 HP2 HP3 HU2
  replace HN1 := hid HN1
  replace HN2 := hid HN2
  replace HP := hid HP
  replace HP2 := hid HP2
  replace HP3 := hid HP3
  go_enter Tryz.func75, Tryz.ntmps75
  go_wp2_with fail
  go_region_held3 (fun w' => w'.cell? ⟨w.heap.size, 0, none⟩ = some (.string x.key) ∧ w'.cell? ⟨w.heap.size, 1, none⟩ = some (.int .i64 x.seq) ∧ w'.cell? ⟨w.heap.size, 2, none⟩ = some (.int .i64 x.kind) ∧ w'.cell? ⟨w.heap.size, 3, none⟩ = some (.string x.val)) (first | with_reducible exact ⟨y0, y1, y2, y3⟩ | exact ⟨cellAl y0 _, cellAl y1 _, cellAl y2 _, cellAl y3 _⟩ | (simp [go_sem]; done) | (simp [go_sem, y0, y1, y2, y3]; done) | (simp [go_sem, y0, y1, y2, y3, n1, n2]; done)) (first
    | (go_at_call 8; with_reducible refine HN1.out.mono ?_; rintro e w1 ⟨a, c, a2, c2, rfl, y0, y1, y2, y3, n1, n2, h1⟩)
    | (go_at_call 8; with_reducible refine HN2.out.mono ?_; rintro e w1 ⟨a, c, a2, c2, rfl, y0, y1, y2, y3, t0, t1, f0, f1, h1, hT⟩)
    | (go_at_call 11; with_reducible refine (HP2.out _ _ _ _ _ _ h1.out hT.out).mono ?_; rintro e w2 ⟨b, n, d, b2, n2, d2, rfl, y0, y1, y2, y3, t0, t1, f0, f1, h2⟩)
    | (go_at_call 11; with_reducible refine (HP.out _ _ _ _ _ _ h1.out).mono ?_; rintro e w2 ⟨b, n, d, b2, n2, d2, rfl, y0, y1, y2, y3, h2⟩)
    | (go_at_call 11; with_reducible refine (HP3.out _ _ _ _ _ _ h1.out).mono ?_; rintro e w2 ⟨b, n, d, b2, n2, d2, rfl, y0, y1, y2, y3, t0, t1, f0, f1, h2⟩))
  all_goals
    go_wp2_with fail
    go_ret
  · exact ⟨rfl, up_al (up_trans HU1.out h2.out) _⟩
  · have u := up_trans HU1.out h2.out
    have s1 := (up_trans HU1.out h1.out.2.2).size
    exact ⟨rfl, u.grown (set2_grown w2 w1.heap.size _ _) u.size (fun k hk => by injection hk with hk; rw [← hk]; omega)⟩
  · have u := up_trans HU2.out h2.out
    exact ⟨rfl, u.grown (set2_grown w2 (w.heap.size + 1) _ _) u.size (fun k hk => by injection hk with hk; rw [← hk]; omega)⟩
end Go.Proofs.YthiegmhplnbdlaaGreat

namespace Go.Proofs.YthiegmhplnbdlaaGreat
open Go.RowKit
set_option linter.unusedVariables false
set_option linter.unusedSimpArgs false
def ascB : List En → Bool
  | x :: y :: r => beforeE x y && ascB (y :: r)
  | _ => true
theorem ascB_iff : ∀ l : List En, ascB l = true ↔ Asc l
  | [] => by simp [ascB, Asc]
  | [x] => by simp [ascB, Asc]
  | x :: y :: r => by
    unfold ascB
    rw [Bool.and_eq_true, ascB_iff (y :: r)]
    constructor
    · rintro ⟨h1, h2⟩
      refine List.pairwise_cons.2 ⟨fun z hz => ?_, h2⟩
      rcases List.mem_cons.1 hz with rfl | hz
      · exact h1
      · exact bef_trans h1 ((List.pairwise_cons.1 h2).1 z hz)
    · intro h
      exact ⟨(List.pairwise_cons.1 h).1 y List.mem_cons_self, (List.pairwise_cons.1 h).2⟩
theorem ascB_at : ∀ l : List En, (∀ i x y, l[i]? = some x → l[i + 1]? = some y → beforeE x y = true) → ascB l = true
  | [], _ => rfl
  | [x], _ => rfl
  | x :: y :: r, h => by
    unfold ascB
    rw [Bool.and_eq_true]
    exact ⟨h 0 x y rfl rfl, ascB_at (y :: r) (fun i a b ha hb => h (i + 1) a b (by simpa using ha) (by simpa using hb))⟩
theorem ascB_not {l : List En} {i : Nat} {x y : En} (hx : l[i]? = some x) (hy : l[i + 1]? = some y) (h : beforeE x y = false) : ascB l = false := by
  cases q : ascB l with
  | false => rfl
  | true =>
    have ha := (ascB_iff l).1 q
    have h1 := List.getElem?_eq_some_iff.1 hx
    have h2 := List.getElem?_eq_some_iff.1 hy
    have := List.pairwise_iff_getElem.1 ha i (i + 1) h1.1 h2.1 (by omega)
    rw [h1.2, h2.2, h] at this
    cases this
def chkP (l : List En) : Int := if l.all mayE = true then (if ascB l = true then 0 else 81) else 1
theorem chkP_iff (l : List En) : chkP l = 0 ↔ ordL l = 0 := by
  rw [ord_iff]
  unfold chkP
  by_cases h : l.all mayE = true
  · rw [if_pos h]
    by_cases k : ascB l = true
    · rw [if_pos k]
      exact ⟨fun _ => ⟨fun x hx => List.all_eq_true.1 h x hx, (ascB_iff l).1 k⟩, fun _ => rfl⟩
    · rw [if_neg k]
      constructor
      · intro q; cases q
      · rintro ⟨_, q⟩; exact absurd ((ascB_iff l).2 q) k
  · rw [if_neg h]
    constructor
    · intro q; cases q
    · rintro ⟨q, _⟩; exact absurd (List.all_eq_true.2 q) h
set_option maxHeartbeats 2000000 in
set_option maxRecDepth 100000 in
theorem mcheck_any (l : List En) (v : Value) (w : World) (hv : EntsR w v l) :
    Calls Tryz.prog 43 #[v] w fun e w' => e = .returned (.int .i64 (chkP l)) ∧ Hid (Below w.heap.size w w') := by
  have HV : Hid (EntsR w v l) := hv
  obtain ⟨a, c, rfl, hc, hm⟩ := hv.len
  have hl63 : l.length ≤ 9223372036854775807 := by unfold maxLen at hm; omega
  clear hv
  go_enter Tryz.func43, Tryz.ntmps43
  go_wp2_with fail
  go_loopw [8] (fun i wr => ∃ k : Nat, k ≤ l.length ∧ i = .int .i64 k ∧ Hid (∀ x ∈ l.take k, mayE x = true) ∧ Hid (Below w.heap.size w wr)) (fun i _ => l.length - (intOf i).toNat)
  case atStart => exact ⟨0, Nat.zero_le _, rfl, (fun x hx => by simp at hx), Below.refl _ _⟩
  case round =>
    obtain ⟨k, hk, rfl, HK, HB⟩ := hrel
    by_cases hlt : k < l.length
    · have hlt' : (k : Int) < (l.length : Int) := by omega
      obtain ⟨b, off, cap, x, e, hx, z0, z1, z2, z3⟩ := (HV.out.up HB.out).at k hlt
      simp at e
      obtain ⟨rfl, rfl⟩ := e
      have HX : Hid (l[k]? = some x) := hx
      clear hx
      have HMY : Hid (∀ W : World, Calls Tryz.prog 75 #[.agg #[.string x.key, .int .i64 x.seq, .int .i64 x.kind, .string x.val]] W fun e w' => e = .returned (.bool (mayE x)) ∧ Hid (Below W.heap.size W w')) := fun W => mayP_anyQ x W
      have UB : Hid (Below wr.heap.size wr (wr.alloc (enObj x))) := up_alloc _ _
      unfold enObj at UB
      cases hmy : mayE x
      · rw [hmy] at HMY
        have HR : Hid (chkP l = 1) := by
          unfold Hid chkP
          rw [if_neg]
          intro q
          rw [List.all_eq_true.1 q x (List.mem_of_getElem? HX.out)] at hmy
          cases hmy
        go_wp2_with fail
        refine (HMY.out _).mono ?_
        rintro e w1 ⟨rfl, u1⟩
        go_wp2_with fail
        go_ret
        exact ⟨ret_int HR.out.symm, up_trans HB.out (up_trans UB.out u1.out)⟩
      · rw [hmy] at HMY
        have HR : Hid (∀ y ∈ l.take (k + 1), mayE y = true) := by
          intro y hy
          rw [List.take_add_one, HX.out] at hy
          rcases List.mem_append.1 hy with q | q
          · exact HK.out y q
          · simp at q
            rw [q]
            exact hmy
        go_wp2_with fail
        refine (HMY.out _).mono ?_
        rintro e w1 ⟨rfl, u1⟩
        go_wp2_with fail
        exact ⟨⟨k + 1, by omega, by go_num, HR, up_trans HB.out (up_trans UB.out u1.out)⟩, by simp [intOf]; omega⟩
    · have hlt' : ¬ (k : Int) < (l.length : Int) := by omega
      obtain rfl : k = l.length := by omega
      have HALL : Hid (l.all mayE = true) := by
        have := HK.out
        rw [List.take_length] at this
        exact List.all_eq_true.2 this
      have HB0 := HB
      clear HB HK
      go_wp2_with fail
      go_loopw [5] (fun i wr => ∃ k : Nat, 1 ≤ k ∧ i = .int .i64 k ∧ (k ≤ l.length ∨ k = 1) ∧ Hid (∀ i x y, i + 1 < k → l[i]? = some x → l[i + 1]? = some y → beforeE x y = true) ∧ Hid (Below w.heap.size w wr)) (fun i _ => l.length + 1 - (intOf i).toNat)
      case atStart => exact ⟨1, Nat.le_refl _, rfl, .inr rfl, (fun i x y h => by omega), HB0⟩
      case round =>
        obtain ⟨k, hk1, rfl, hk2, HK, HB⟩ := hrel
        clear HB0
        by_cases hlt : k < l.length
        · have hlt' : (k : Int) < (l.length : Int) := by omega
          obtain ⟨j, hj⟩ : ∃ j, k = j + 1 := ⟨k - 1, by omega⟩
          obtain ⟨b, off, cap, x, e, hx, z0, z1, z2, z3⟩ := (HV.out.up HB.out).at j (by omega)
          obtain ⟨b2, off2, cap2, y, e2, hy, t0, t1, t2, t3⟩ := (HV.out.up HB.out).at k hlt
          simp at e e2
          obtain ⟨rfl, rfl⟩ := e
          obtain ⟨⟨rfl, rfl⟩, rfl⟩ := e2
          have hjj : (k : Int) - 1 = (j : Int) := by omega
          have hwj : IntKind.i64.wrap (j : Int) = (j : Int) := by rw [IntKind.wrap_i64]; omega
          have hjl : (j : Int) < (l.length : Int) := by omega
          have HX : Hid (l[j]? = some x) := hx
          have HY : Hid (l[j + 1]? = some y) := by rw [hj] at hy; exact hy
          have HJ : Hid (k = j + 1) := hj
          clear hx hy hj
          have m0 := cell_up z0
          have m1 := cell_up z1
          have m2 := cell_up z2
          have m3 := cell_up z3
          have n0 := cell_up t0
          have n1 := cell_up t1
          have n2 := cell_up t2
          have n3 := cell_up t3
          have HQ : Hid (∀ x', beforeE x y = x' → ∀ W : World, Calls Tryz.prog 33 #[.agg #[.string x.key, .int .i64 x.seq, .int .i64 x.kind, .string x.val], .agg #[.string y.key, .int .i64 y.seq, .int .i64 y.kind, .string y.val]] W fun e w' => e = .returned (.bool x') ∧ Below W.heap.size W w') := fun x' h W => beforeP x y x' h W
          cases hbf : beforeE x y
          · have HR : Hid (chkP l = 81) := by
              unfold Hid chkP
              rw [if_pos HALL.out, if_neg]
              rw [ascB_not HX.out HY.out hbf]
              decide
            have HQ2 := hid (HQ.out false hbf)
            clear HQ hbf
            go_wp2_with fail
            refine wp_region_up (by kernel_rfl) (by kernel_rfl) ?_
            repeat (quiet_step (first | (go_at_call 33; refine calls_up (HQ2.out _))))
            refine wpQuiet_nil ?_
            intro _ hw'
            obtain ⟨p, hw''⟩ := hw'
            subst hw''
            go_wp2_with fail
            go_ret
            exact ⟨ret_int HR.out.symm, up_trans HB.out p.up⟩
          · have HR : Hid (∀ i x y, i + 1 < k + 1 → l[i]? = some x → l[i + 1]? = some y → beforeE x y = true) := by
              intro i a b hi ha hb
              by_cases q : i = j
              · subst q
                rw [HX.out] at ha
                rw [HY.out] at hb
                cases ha
                cases hb
                exact hbf
              · exact HK.out i a b (by have := HJ.out; omega) ha hb
            have HQ2 := hid (HQ.out true hbf)
            clear HQ hbf
            go_wp2_with fail
            refine wp_region_up (by kernel_rfl) (by kernel_rfl) ?_
            repeat (quiet_step (first | (go_at_call 33; refine calls_up (HQ2.out _))))
            refine wpQuiet_nil ?_
            intro _ hw'
            obtain ⟨p, hw''⟩ := hw'
            subst hw''
            go_wp2_with fail
            exact ⟨⟨k + 1, by omega, by go_num, .inl (by omega), HR, up_trans HB.out p.up⟩, by simp [intOf]; omega⟩
        · have hlt' : ¬ (k : Int) < (l.length : Int) := by omega
          have HR : Hid (chkP l = 0) := by
            unfold Hid chkP
            rw [if_pos HALL.out, if_pos]
            refine ascB_at l (fun i x y hx hy => HK.out i x y ?_ hx hy)
            have := (List.getElem?_eq_some_iff.1 hy).1
            omega
          go_wp2_with fail
          go_ret
          exact ⟨ret_int HR.out.symm, HB.out⟩
end Go.Proofs.YthiegmhplnbdlaaGreat
