/- The texts TNum, GGet, in this order. -/
import Derived.Test.YtekoniaobmapdaaGreatTBuild
import Derived.Test.YtekoniaobmapdaaGreatG14
import Derived.Test.YtekoniaobmapdaaGreatVRefGet

/- The document's number of layer 10. -/
namespace Go.Proofs.YtekoniaobmapdaaGreat
open Go.RowKit SumPlain
set_option linter.unusedVariables false
set_option linter.unusedSimpArgs false

theorem bits_or_i64_nat (a b : Nat) (ha : a < 9223372036854775808) (hb : b < 9223372036854775808) :
    bits .or .i64 (a : Int) (b : Int) = ((a ||| b : Nat) : Int) := by
  have hx : a ||| b < 2 ^ 63 := Nat.or_lt_two_pow (by omega) (by omega)
  have h1 : (BitVec.ofInt 64 (a : Int)).toNat = a := by
    rw [BitVec.ofInt_natCast, BitVec.toNat_ofNat]; exact Nat.mod_eq_of_lt (by omega)
  have h2 : (BitVec.ofInt 64 (b : Int)).toNat = b := by
    rw [BitVec.ofInt_natCast, BitVec.toNat_ofNat]; exact Nat.mod_eq_of_lt (by omega)
  show IntKind.i64.wrap ((BitVec.ofInt 64 (a : Int) ||| BitVec.ofInt 64 (b : Int)).toNat : Int) = _
  rw [BitVec.toNat_or, h1, h2, IntKind.wrap_i64]
  omega
theorem or_add (k : Nat) (A y : Int) (hA : 0 ≤ A) (hA2 : A ≤ 4294967295) (hk : k ≤ 24) (hy : 0 ≤ y) (hy2 : y < ((2 ^ k : Nat) : Int)) : bits .or .i64 (A * ((2 ^ k : Nat) : Int)) y = A * ((2 ^ k : Nat) : Int) + y := by
  obtain ⟨a, rfl⟩ := Int.eq_ofNat_of_zero_le hA
  obtain ⟨b, rfl⟩ := Int.eq_ofNat_of_zero_le hy
  have hp : 2 ^ k ≤ 2 ^ 24 := Nat.pow_le_pow_right (by omega) hk
  have hm : a * 2 ^ k ≤ 4294967295 * 2 ^ 24 := Nat.mul_le_mul (by omega) hp
  rw [← Int.natCast_mul, bits_or_i64_nat _ _ (by omega) (by omega)]
  have h := Nat.shiftLeft_add_eq_or_of_lt (b := b) (i := k) (by omega) a
  rw [Nat.shiftLeft_eq] at h
  rw [← h]
  simp

set_option maxHeartbeats 1000000 in
set_option maxRecDepth 100000 in
theorem refNumber_any (x0 x1 x2 x3 : Int) (b off n c : Nat) (w : World) (h0 : 0 ≤ x0 ∧ x0 ≤ 255) (h1 : 0 ≤ x1 ∧ x1 ≤ 255) (h2 : 0 ≤ x2 ∧ x2 ≤ 255) (h3 : 0 ≤ x3 ∧ x3 ≤ 255)
    (c0 : w.cell? ⟨b, off, none⟩ = some (.int .u8 x0)) (c1 : w.cell? ⟨b, off + 1, none⟩ = some (.int .u8 x1)) (c2 : w.cell? ⟨b, off + 2, none⟩ = some (.int .u8 x2)) (c3 : w.cell? ⟨b, off + 3, none⟩ = some (.int .u8 x3)) :
    Calls Tryz.prog 33 #[.slice (some ⟨b, off, none⟩) 4 c] w fun e w' => e = .returned (.int .i64 (x0 * 16777216 + x1 * 65536 + x2 * 256 + x3)) ∧ ∃ d, w' = w.drewN d := by
  have e0 : IntKind.i64.wrap x0 = x0 := wrap64_id _ (by omega) (by omega)
  have e1 : IntKind.i64.wrap x1 = x1 := wrap64_id _ (by omega) (by omega)
  have e2 : IntKind.i64.wrap x2 = x2 := wrap64_id _ (by omega) (by omega)
  have e3 : IntKind.i64.wrap x3 = x3 := wrap64_id _ (by omega) (by omega)
  have o1 : bits .or .i64 (x0 * 16777216) (x1 * 65536) = (x0 * 256 + x1) * 65536 := by
    have := or_add 24 x0 (x1 * 65536) h0.1 (by omega) (by omega) (by omega) (by simp; omega)
    simp at this
    rw [this]
    omega
  have o2 : bits .or .i64 ((x0 * 256 + x1) * 65536) (x2 * 256) = (x0 * 65536 + x1 * 256 + x2) * 256 := by
    have := or_add 16 (x0 * 256 + x1) (x2 * 256) (by omega) (by omega) (by omega) (by omega) (by simp; omega)
    simp at this
    rw [this]
    omega
  have o3 : bits .or .i64 ((x0 * 65536 + x1 * 256 + x2) * 256) x3 = x0 * 16777216 + x1 * 65536 + x2 * 256 + x3 := by
    have := or_add 8 (x0 * 65536 + x1 * 256 + x2) x3 (by omega) (by omega) (by omega) (by omega) (by simp; omega)
    simp at this
    rw [this]
    omega
  have HF : Hid (bits .or .i64 (bits .or .i64 (bits .or .i64 (x0 * 16777216) (x1 * 65536)) (x2 * 256)) x3 = x0 * 16777216 + x1 * 65536 + x2 * 256 + x3) := by
    unfold Hid
    rw [o1, o2, o3]
  clear o1 o2 o3
  go_enter Tryz.func33, Tryz.ntmps33
  go_wp2_with fail
  go_quiet (fail)
  go_wp2_with fail
  go_ret
  exact ⟨ret_int HF.out, _, rfl⟩
/-- The number at the beginning of octets. -/
theorem refNumber_octs (l : List Int) (b off c : Nat) (w : World) (h : Octs w (.slice (some ⟨b, off, none⟩) 4 c) l) (hl : l.length = 4) :
    Calls Tryz.prog 33 #[.slice (some ⟨b, off, none⟩) 4 c] w fun e w' => e = .returned (.int .i64 (numL l : Nat)) ∧ ∃ d, w' = w.drewN d := by
  match l, hl with
  | [x0, x1, x2, x3], _ =>
    rcases h.2 with ⟨q, _⟩ | ⟨_, b1, off1, cap1, e1, _, _, hc⟩
    · cases q
    simp only [Value.slice.injEq, Option.some.injEq, Addr.mk.injEq] at e1
    obtain ⟨⟨rfl, rfl, _⟩, _, _⟩ := e1
    have h0 := h.1 x0 (by simp)
    have h1 := h.1 x1 (by simp)
    have h2 := h.1 x2 (by simp)
    have h3 := h.1 x3 (by simp)
    have r := refNumber_any x0 x1 x2 x3 b off 4 c w h0 h1 h2 h3 (by simpa using hc 0 x0 rfl) (hc 1 x1 rfl) (hc 2 x2 rfl) (hc 3 x3 rfl)
    have e : ((numL [x0, x1, x2, x3] : Nat) : Int) = x0 * 16777216 + x1 * 65536 + x2 * 256 + x3 := by
      unfold numL
      simp
      omega
    rw [e]
    exact r
end Go.Proofs.YtekoniaobmapdaaGreat

/- The document's own Get over any octets: it answers what 'fget' says. -/
namespace Go.Proofs.YtekoniaobmapdaaGreat
open Go.RowKit SumPlain
set_option linter.unusedVariables false
set_option maxRecDepth 20000

set_option maxHeartbeats 1000000 in
theorem rget_err_any (b : List Int) (n j e : Int) (v : Value) (w : World) (hv : Octs w v b) (hg : getRet b = .tuple #[.int .u64 n, .int .i64 j, .int .i64 e]) (he : e ≠ 0) :
    Calls Tryz.prog 60 #[v] w fun e' w' => e' = .returned (.tuple #[.agg #[.int .i64 0, .slice none 0 0], .int .i64 0, .int .i64 e]) ∧ Below w.heap.size w w' := by
  obtain ⟨a, cap, rfl, hcap, hmax⟩ := hv.len
  have HV : Hid (∀ o, Octs (w.alloc o) (.slice a b.length cap) b) := fun o => hv.up (up_alloc w o)
  have he' : (e == 0) = false := by simp [he]
  clear hv hcap hmax
  go_enter Tryz.func60, Tryz.ntmps60
  go_wp2_with fail
  refine (refGet_any b _ _ (HV.out _)).mono ?_
  rintro e1 w1 ⟨rfl, d, rfl⟩
  rw [hg]
  have B0 : Hid (((w.alloc (.cells #[.int .i64 0, .slice none 0 0] 62)).drewN d).heap[w.heap.size]? = some (.cells #[.int .i64 0, .slice none 0 0] 62)) := blk_up (blk_new w _) (up_drewN _ d)
  have U0 : Hid (Below w.heap.size w ((w.alloc (.cells #[.int .i64 0, .slice none 0 0] 62)).drewN d)) := up_trans (up_alloc w _) (up_drewN _ d)
  generalize (w.alloc (.cells #[.int .i64 0, .slice none 0 0] 62)).drewN d = w1 at *
  have q0 := blk_cell B0.out 0 _ rfl
  have q1 := blk_cell B0.out 1 _ rfl
  have z0 := blk_frozen B0.out 0
  have z1 := blk_frozen B0.out 1
  go_wp2
  refine bodyPost_ret (results_rec3 rfl (.inr rfl) _ _ rfl (set2_blkF B0.out _ _)) rfl ?_
  exact ⟨rfl, U0.out.grown (set2_grownF _ _ _ _) U0.out.size (fun k hk => by injection hk with hk; omega)⟩

set_option maxHeartbeats 1000000 in
theorem rget_long_any (b : List Int) (n j : Int) (v : Value) (w : World) (hv : Octs w v b) (hg : getRet b = .tuple #[.int .u64 n, .int .i64 j, .int .i64 0]) (hn : 65536 < n) :
    Calls Tryz.prog 60 #[v] w fun e' w' => e' = .returned (.tuple #[.agg #[.int .i64 0, .slice none 0 0], .int .i64 0, .int .i64 5]) ∧ Below w.heap.size w w' := by
  obtain ⟨a, cap, rfl, hcap, hmax⟩ := hv.len
  have HV : Hid (∀ o, Octs (w.alloc o) (.slice a b.length cap) b) := fun o => hv.up (up_alloc w o)
  clear hv hcap hmax
  go_enter Tryz.func60, Tryz.ntmps60
  go_wp2_with fail
  refine (refGet_any b _ _ (HV.out _)).mono ?_
  rintro e1 w1 ⟨rfl, d, rfl⟩
  rw [hg]
  have B0 : Hid (((w.alloc (.cells #[.int .i64 0, .slice none 0 0] 62)).drewN d).heap[w.heap.size]? = some (.cells #[.int .i64 0, .slice none 0 0] 62)) := blk_up (blk_new w _) (up_drewN _ d)
  have U0 : Hid (Below w.heap.size w ((w.alloc (.cells #[.int .i64 0, .slice none 0 0] 62)).drewN d)) := up_trans (up_alloc w _) (up_drewN _ d)
  generalize (w.alloc (.cells #[.int .i64 0, .slice none 0 0] 62)).drewN d = w1 at *
  have q0 := blk_cell B0.out 0 _ rfl
  have q1 := blk_cell B0.out 1 _ rfl
  have z0 := blk_frozen B0.out 0
  have z1 := blk_frozen B0.out 1
  go_wp2
  refine bodyPost_ret (results_rec3 rfl (.inr rfl) _ _ rfl (set2_blkF B0.out _ _)) rfl ?_
  exact ⟨rfl, U0.out.grown (set2_grownF _ _ _ _) U0.out.size (fun k hk => by injection hk with hk; omega)⟩

set_option maxHeartbeats 1000000 in
theorem rget_short_any (b : List Int) (n j : Nat) (v : Value) (w : World) (hv : Octs w v b) (hg : getRet b = .tuple #[.int .u64 (n : Int), .int .i64 (j : Int), .int .i64 0]) (hn : n ≤ 65536) (hj : j ≤ 9) (hl : b.length < j + 1 + n + 4) :
    Calls Tryz.prog 60 #[v] w fun e' w' => e' = .returned (.tuple #[.agg #[.int .i64 0, .slice none 0 0], .int .i64 0, .int .i64 8]) ∧ Below w.heap.size w w' := by
  have g0 : ¬ (65536 : Int) < (n : Int) := by omega
  have g1 : IntKind.i64.wrap (n : Int) = (n : Int) := by simp [IntKind.wrap, IntKind.bits, IntKind.signed]; omega
  have g2 : (b.length : Int) < (j : Int) + 1 + (n : Int) + 4 := by omega
  obtain ⟨a, cap, rfl, hcap, hmax⟩ := hv.len
  have HV : Hid (∀ o, Octs (w.alloc o) (.slice a b.length cap) b) := fun o => hv.up (up_alloc w o)
  clear hv hcap hmax
  go_enter Tryz.func60, Tryz.ntmps60
  go_wp2_with fail
  refine (refGet_any b _ _ (HV.out _)).mono ?_
  rintro e1 w1 ⟨rfl, d, rfl⟩
  rw [hg]
  have B0 : Hid (((w.alloc (.cells #[.int .i64 0, .slice none 0 0] 62)).drewN d).heap[w.heap.size]? = some (.cells #[.int .i64 0, .slice none 0 0] 62)) := blk_up (blk_new w _) (up_drewN _ d)
  have U0 : Hid (Below w.heap.size w ((w.alloc (.cells #[.int .i64 0, .slice none 0 0] 62)).drewN d)) := up_trans (up_alloc w _) (up_drewN _ d)
  generalize (w.alloc (.cells #[.int .i64 0, .slice none 0 0] 62)).drewN d = w1 at *
  have q0 := blk_cell B0.out 0 _ rfl
  have q1 := blk_cell B0.out 1 _ rfl
  have z0 := blk_frozen B0.out 0
  have z1 := blk_frozen B0.out 1
  go_wp2
  refine bodyPost_ret (results_rec3 rfl (.inr rfl) _ _ rfl (set2_blkF B0.out _ _)) rfl ?_
  exact ⟨rfl, U0.out.grown (set2_grownF _ _ _ _) U0.out.size (fun k hk => by injection hk with hk; omega)⟩

set_option maxHeartbeats 1000000 in
theorem rget_bare_any (b : List Int) (n j : Nat) (v : Value) (w : World) (hv : Octs w v b) (hg : getRet b = .tuple #[.int .u64 (n : Int), .int .i64 (j : Int), .int .i64 0]) (hn : n ≤ 65536) (hj : j ≤ 9) (hl : ¬ b.length < j + 1 + n + 4)
    (x : List Int) (f : Int) (hb : bareOf (b.take (j + 1 + n + 4)) = (x, f)) (hf : f ≠ 0) :
    Calls Tryz.prog 60 #[v] w fun e' w' => e' = .returned (.tuple #[.agg #[.int .i64 0, .slice none 0 0], .int .i64 0, .int .i64 f]) ∧ Below w.heap.size w w' := by
  have g0 : ¬ (65536 : Int) < (n : Int) := by omega
  have g1 : IntKind.i64.wrap (n : Int) = (n : Int) := by simp [IntKind.wrap, IntKind.bits, IntKind.signed]; omega
  have g2 : ¬ (b.length : Int) < (j : Int) + 1 + (n : Int) + 4 := by omega
  have hf' : (f == 0) = false := by simp [hf]
  obtain ⟨bb, off, cap0, rfl, hc0, hm0, _⟩ := hv.at 0 (by omega)
  generalize hcc : cap0 = cap at *
  clear hcc
  have HV : Hid (∀ o, Octs (w.alloc o) (.slice (some ⟨bb, off, none⟩) b.length cap) b) := fun o => hv.up (up_alloc w o)
  have HV1 : Hid (∀ o d, Octs ((w.alloc o).drewN d) (.slice (some ⟨bb, off, none⟩) (j + 1 + n + 4) cap) (b.take (j + 1 + n + 4))) := fun o d => (hv.up (up_trans (up_alloc w o) (up_drewN _ d))).cut rfl _ (by omega)
  unfold maxLen at hm0
  clear hv
  go_enter Tryz.func60, Tryz.ntmps60
  go_wp2_with fail
  refine (refGet_any b _ _ (HV.out _)).mono ?_
  rintro e1 w1 ⟨rfl, d, rfl⟩
  rw [hg]
  have B0 : Hid (((w.alloc (.cells #[.int .i64 0, .slice none 0 0] 62)).drewN d).heap[w.heap.size]? = some (.cells #[.int .i64 0, .slice none 0 0] 62)) := blk_up (blk_new w _) (up_drewN _ d)
  have U0 : Hid (Below w.heap.size w ((w.alloc (.cells #[.int .i64 0, .slice none 0 0] 62)).drewN d)) := up_trans (up_alloc w _) (up_drewN _ d)
  have HV2 : Hid (Octs ((w.alloc (.cells #[.int .i64 0, .slice none 0 0] 62)).drewN d) (.slice (some ⟨bb, off, none⟩) (j + 1 + n + 4) cap) (b.take (j + 1 + n + 4))) := HV1.out _ _
  generalize (w.alloc (.cells #[.int .i64 0, .slice none 0 0] 62)).drewN d = w1 at *
  have q0 := blk_cell B0.out 0 _ rfl
  have q1 := blk_cell B0.out 1 _ rfl
  have z0 := blk_frozen B0.out 0
  have z1 := blk_frozen B0.out 1
  go_wp2_with fail
  refine (refBare_any _ _ _ HV2.out (by rw [List.length_take]; omega)).mono ?_
  rintro e2 w2 ⟨v2, rfl, o2, b2⟩
  rw [hb] at o2 ⊢
  obtain ⟨a2, n2, c2, rfl, N2⟩ := own_shape o2
  have B2 : Hid (w2.heap[w.heap.size]? = some (.cells #[.int .i64 0, .slice none 0 0] 62)) := blk_up B0.out b2
  have U2 : Hid (Below w.heap.size w w2) := up_trans U0.out b2
  clear q0 q1 z0 z1 o2 b2
  have q0 := blk_cell B2.out 0 _ rfl
  have q1 := blk_cell B2.out 1 _ rfl
  have z0 := blk_frozen B2.out 0
  have z1 := blk_frozen B2.out 1
  go_wp2
  refine bodyPost_ret (results_rec3 rfl (.inr rfl) _ _ rfl (set2_blkF B2.out _ _)) rfl ?_
  exact ⟨rfl, U2.out.grown (set2_grownF _ _ _ _) U2.out.size (fun k hk => by injection hk with hk; omega)⟩

set_option maxHeartbeats 1000000 in
theorem rget_good_any (b : List Int) (n j : Nat) (v : Value) (w : World) (hv : Octs w v b) (hg : getRet b = .tuple #[.int .u64 (n : Int), .int .i64 (j : Int), .int .i64 0]) (hn : n ≤ 65536) (hj : j ≤ 9) (hl : ¬ b.length < j + 1 + n + 4)
    (x : List Int) (hb : bareOf (b.take (j + 1 + n + 4)) = (x, 0)) (hx : x.length = j + 1 + n) (hoct : ∀ y ∈ x, 0 ≤ y ∧ y ≤ 255) :
    Calls Tryz.prog 60 #[v] w fun e' w' => ∃ vd, e' = .returned (.tuple #[.agg #[.int .i64 (x.getD j 0), vd], .int .i64 ((j : Int) + 1 + (n : Int) + 4), .int .i64 0]) ∧ NewB w' w.heap.size vd (x.drop (j + 1)) ∧ Below w.heap.size w w' := by
  have g0 : ¬ (65536 : Int) < (n : Int) := by omega
  have g1 : IntKind.i64.wrap (n : Int) = (n : Int) := by simp [IntKind.wrap, IntKind.bits, IntKind.signed]; omega
  have g2 : ¬ (b.length : Int) < (j : Int) + 1 + (n : Int) + 4 := by omega
  obtain ⟨bb, off, cap0, rfl, hc0, hm0, _⟩ := hv.at 0 (by omega)
  generalize hcc : cap0 = cap at *
  clear hcc
  have HV : Hid (∀ o, Octs (w.alloc o) (.slice (some ⟨bb, off, none⟩) b.length cap) b) := fun o => hv.up (up_alloc w o)
  have HV1 : Hid (∀ o d, Octs ((w.alloc o).drewN d) (.slice (some ⟨bb, off, none⟩) (j + 1 + n + 4) cap) (b.take (j + 1 + n + 4))) := fun o d => (hv.up (up_trans (up_alloc w o) (up_drewN _ d))).cut rfl _ (by omega)
  unfold maxLen at hm0
  clear hv
  go_enter Tryz.func60, Tryz.ntmps60
  go_wp2_with fail
  refine (refGet_any b _ _ (HV.out _)).mono ?_
  rintro e1 w1 ⟨rfl, d, rfl⟩
  rw [hg]
  have B0 : Hid (((w.alloc (.cells #[.int .i64 0, .slice none 0 0] 62)).drewN d).heap[w.heap.size]? = some (.cells #[.int .i64 0, .slice none 0 0] 62)) := blk_up (blk_new w _) (up_drewN _ d)
  have U0 : Hid (Below w.heap.size w ((w.alloc (.cells #[.int .i64 0, .slice none 0 0] 62)).drewN d)) := up_trans (up_alloc w _) (up_drewN _ d)
  have HV2 : Hid (Octs ((w.alloc (.cells #[.int .i64 0, .slice none 0 0] 62)).drewN d) (.slice (some ⟨bb, off, none⟩) (j + 1 + n + 4) cap) (b.take (j + 1 + n + 4))) := HV1.out _ _
  generalize (w.alloc (.cells #[.int .i64 0, .slice none 0 0] 62)).drewN d = w1 at *
  have q0 := blk_cell B0.out 0 _ rfl
  have q1 := blk_cell B0.out 1 _ rfl
  have z0 := blk_frozen B0.out 0
  have z1 := blk_frozen B0.out 1
  go_wp2_with fail
  refine (refBare_any _ _ _ HV2.out (by rw [List.length_take]; omega)).mono ?_
  rintro e2 w2 ⟨v2, rfl, o2, b2⟩
  rw [hb] at o2 ⊢
  replace o2 : OwnB w2 w1.heap.size v2 x := o2
  have hne : x ≠ [] := by intro e; rw [e] at hx; simp at hx; omega
  obtain ⟨g, c2, rfl, hg1, hg2, hc2, hm2⟩ := own_form o2 hne
  have hs1 : w.heap.size < w1.heap.size := blk_lt B0.out
  have hO := Octs.own o2 hoct
  obtain ⟨g', off', cap', e', _, _, hcell⟩ := hO.at j (by omega)
  simp only [Value.slice.injEq, Option.some.injEq, Addr.mk.injEq] at e'
  obtain ⟨⟨rfl, rfl, _⟩, _, rfl⟩ := e'
  rw [Nat.zero_add] at hcell
  have HD : Hid (NewB w2 w.heap.size (.slice (some ⟨g, j + 1, none⟩) n (c2 - (j + 1))) (x.drop (j + 1))) := by
    have h := hO.back rfl (j + 1) (by omega) hc2
    rw [Nat.zero_add, show x.length - (j + 1) = n by omega] at h
    exact ⟨h, fun k hk => by simp [Value.ownBlock] at hk; omega⟩
  have HD0 : Hid (n = 0 → NewB w2 w.heap.size (.slice (some ⟨g, 0, none⟩) n 0) (x.drop (j + 1))) := by
    rintro rfl
    have e : x.drop (j + 1) = [] := List.drop_eq_nil_iff.2 (by omega)
    rw [e]
    exact ⟨⟨by simp, .inl ⟨rfl, _, _, rfl, fun h => by cases h⟩⟩, fun k hk => by simp [Value.ownBlock] at hk; omega⟩
  have HNE : Hid (g ≠ w.heap.size) := by unfold Hid; omega
  have B2 : Hid (w2.heap[w.heap.size]? = some (.cells #[.int .i64 0, .slice none 0 0] 62)) := blk_up B0.out b2
  have U2 : Hid (Below w.heap.size w w2) := up_trans U0.out b2
  have hk := hO.oct j (by omega)
  have g5 : x.length - (j + 1) = n := by omega
  have hjx : j < x.length := by omega
  have hjx' : j + 1 ≤ x.length := by omega
  clear q0 q1 z0 z1 o2 b2 hO
  have q0 := blk_cell B2.out 0 _ rfl
  have q1 := blk_cell B2.out 1 _ rfl
  have z0 := blk_frozen B2.out 0
  have z1 := blk_frozen B2.out 1
  obtain ⟨kd, hkd⟩ : ∃ kd, x.getD j 0 = kd := ⟨_, rfl⟩
  rw [hkd] at hcell hk
  have HK : Hid (x[j]?.getD 0 = kd) := by unfold Hid; rw [← hkd]; rfl
  have HK2 : Hid (x.getD j 0 = kd) := hkd
  have hkw : IntKind.i64.wrap kd = kd := by simp [IntKind.wrap, IntKind.bits, IntKind.signed]; omega
  clear hkd
  have HC : Hid (∀ (o : Nat) (cx : Nat), ((o = j + 1 ∧ cx = c2 - (j + 1)) ∨ (n = 0 ∧ o = 0 ∧ cx = 0)) → Calls Tryz.prog 54 #[.slice (some ⟨g, o, none⟩) n cx] w2.drew fun e w' => ∃ a' n' c', e = .returned (.slice a' n' c') ∧ w'.cell? ⟨g, j, none⟩ = some (.int .u8 kd) ∧
      w'.cell? ⟨w.heap.size, 0, none⟩ = some (.int .i64 0) ∧ w'.cell? ⟨w.heap.size, 1, none⟩ = some (.slice none 0 0) ∧ w'.frozen? ⟨w.heap.size, 0, none⟩ = false ∧ w'.frozen? ⟨w.heap.size, 1, none⟩ = false ∧
      Hid (NewB w' w2.heap.size (.slice a' n' c') (x.drop (j + 1))) ∧ Hid (w'.heap[w.heap.size]? = some (.cells #[.int .i64 0, .slice none 0 0] 62)) ∧ Hid (Below w.heap.size w w')) := by
    intro o cx ho
    have hO2 : Octs w2 (.slice (some ⟨g, o, none⟩) n cx) (x.drop (j + 1)) := by
      rcases ho with ⟨rfl, rfl⟩ | ⟨h1, rfl, rfl⟩
      · exact HD.out.1
      · exact (HD0.out h1).1
    have hlen : (x.drop (j + 1)).length = n := by rw [List.length_drop]; omega
    refine (copied_any (x.drop (j + 1)) _ _ (hO2.up (up_dr (Below.refl _ _))) (by omega)).mono ?_
    rintro e w' ⟨v', rfl, ho', hb'⟩
    obtain ⟨a', n', c', rfl, _⟩ := own_shape ho'
    have hb2 : Below w2.heap.size w2 w' := up_trans (up_dr (Below.refl _ _)) hb'
    have d1 := blk_up B2.out hb2
    have hg : g < w2.heap.size := by
      rcases Nat.lt_or_ge g w2.heap.size with h | h
      · exact h
      · simp [World.cell?, Array.getElem?_eq_none h] at hcell
    refine ⟨a', n', c', rfl, ?_, blk_cell d1 0 _ rfl, blk_cell d1 1 _ rfl, blk_frozen d1 0, blk_frozen d1 1, ?_, d1, up_trans U2.out hb2⟩
    · rw [hb2.cell (p := ⟨g, j, none⟩) hg]; exact hcell
    · exact (OwnB.fresh ho' (fun y hy => hoct y (List.mem_of_mem_drop hy)))
  have HS2 : Hid (w.heap.size < w2.heap.size) := blk_lt B2.out
  have HXL : Hid (x.length = j + 1 + n) := hx
  obtain ⟨N, hN⟩ : ∃ N, N = x.length := ⟨_, rfl⟩
  have j1 : (j : Int) < (N : Int) := by omega
  have j2 : (j : Int) + 1 ≤ (N : Int) := by omega
  have j3 : (N : Int) ≤ (c2 : Int) := by omega
  have j4 : (j : Int) + 1 ≤ (c2 : Int) := by omega
  have j5 : 0 ≤ (j : Int) + 1 := by omega
  have j6 : N - (j + 1) = n := by omega
  have j7 : j < N := by omega
  have j8 : j + 1 ≤ N := by omega
  have j9' : IntKind.i64.wrap ((j : Int) + 1) = (j : Int) + 1 := by simp [IntKind.wrap, IntKind.bits, IntKind.signed]; omega
  rw [← hN] at hc2 ⊢
  clear q0 q1 z0 z1 hx g5 hjx hjx' hN
  by_cases hcj : c2 = j + 1
  · have hn0 : Hid (n = 0) := by have := HXL.out; unfold Hid; omega
    subst hcj
    go_wp2_with fail
    go_region_held3 (fun w' => w'.cell? ⟨g, j, none⟩ = some (.int .u8 kd)) (first | with_reducible exact qc | with_reducible exact hcell | (simp [go_sem, hcell]; done) | (simp [go_sem, qc]; done)) (first
      | (go_at_call 54; with_reducible refine (HC.out 0 0 (.inr ⟨hn0.out, rfl, rfl⟩)).mono ?_; rintro e w' ⟨a', n', c', rfl, qc, q0, q1, z0, z1, hnb, hbk, hbl⟩))
    all_goals
      go_wp2_with fail
      refine bodyPost_ret (results_rec3 rfl (.inr rfl) _ _ rfl (set2_blkF hbk.out _ _)) rfl ?_
      first | rw [HK.out] | rw [HK2.out]
      refine ⟨_, rfl, (hnb.out.far (set2_grownF _ _ _ _) (fun k hk e => ?_)).mono U2.out.size, hbl.out.grown (set2_grownF _ _ _ _) hbl.out.size (fun k hk => ?_)⟩
      · have h1 := hnb.out.2 k hk
        have := HS2.out
        simp at e
        omega
      · simp at hk; omega
  · go_wp2_with fail
    go_region_held3 (fun w' => w'.cell? ⟨g, j, none⟩ = some (.int .u8 kd)) (first | with_reducible exact qc | with_reducible exact hcell | (simp [go_sem, hcell]; done) | (simp [go_sem, qc]; done)) (first
      | (go_at_call 54; with_reducible refine (HC.out (j + 1) (c2 - (j + 1)) (.inl ⟨rfl, rfl⟩)).mono ?_; rintro e w' ⟨a', n', c', rfl, qc, q0, q1, z0, z1, hnb, hbk, hbl⟩))
    all_goals
      go_wp2_with fail
      refine bodyPost_ret (results_rec3 rfl (.inr rfl) _ _ rfl (set2_blkF hbk.out _ _)) rfl ?_
      first | rw [HK.out] | rw [HK2.out]
      refine ⟨_, rfl, (hnb.out.far (set2_grownF _ _ _ _) (fun k hk e => ?_)).mono U2.out.size, hbl.out.grown (set2_grownF _ _ _ _) hbl.out.size (fun k hk => ?_)⟩
      · have h1 := hnb.out.2 k hk
        have := HS2.out
        simp at e
        omega
      · simp at hk; omega

theorem rget_any (b : List Int) (v : Value) (w : World) (hv : Octs w v b) :
    Calls Tryz.prog 60 #[v] w fun e w' => ∃ vd, e = .returned (.tuple #[.agg #[.int .i64 (fget b).1, vd], .int .i64 (fget b).2.2.1, .int .i64 (fget b).2.2.2]) ∧ NewB w' w.heap.size vd (fget b).2.1 ∧ Below w.heap.size w w' := by
  have bad : ∀ e, fget b = (0, [], 0, e) → (Calls Tryz.prog 60 #[v] w fun e' w' => e' = .returned (.tuple #[.agg #[.int .i64 0, .slice none 0 0], .int .i64 0, .int .i64 e]) ∧ Below w.heap.size w w') →
      Calls Tryz.prog 60 #[v] w fun e w' => ∃ vd, e = .returned (.tuple #[.agg #[.int .i64 (fget b).1, vd], .int .i64 (fget b).2.2.1, .int .i64 (fget b).2.2.2]) ∧ NewB w' w.heap.size vd (fget b).2.1 ∧ Below w.heap.size w w' := by
    intro e he hc
    refine hc.mono ?_
    rintro e' w' ⟨rfl, hb⟩
    rw [he]
    exact ⟨_, rfl, NewB.nil _ _, hb⟩
  rcases get_says b hv.1 with hg | hg | ⟨n, j, hg, n0, n1, j1, jl, ho, j9⟩
  · exact bad 8 (fget_err (getRet_injF hg) (by decide)) (rget_err_any b 0 0 8 v w hv hg (by decide))
  · exact bad 4 (fget_err (getRet_injF hg) (by decide)) (rget_err_any b 0 0 4 v w hv hg (by decide))
  · have hG := getRet_injF hg
    by_cases h1 : 65536 < n
    · exact bad 5 (fget_long hG h1) (rget_long_any b n j v w hv hg h1)
    obtain ⟨m, rfl⟩ : ∃ m : Nat, n = (m : Int) := ⟨n.toNat, by omega⟩
    by_cases h2 : b.length < j + 1 + m + 4
    · exact bad 8 (fget_short hG h1 (by omega)) (rget_short_any b m j v w hv hg (by omega) j9 h2)
    have hm : ((j : Int) + 1 + (m : Int) + 4).toNat = j + 1 + m + 4 := by omega
    obtain ⟨x, f, hb⟩ : ∃ x f, bareOf (b.take (j + 1 + m + 4)) = (x, f) := ⟨_, _, rfl⟩
    by_cases hf : f = 0
    · subst hf
      obtain ⟨h3, h4⟩ := bareOf_good hb
      rw [List.length_take] at h3
      rw [fget_good hG h1 (by omega) hm hb]
      refine rget_good_any b m j v w hv hg (by omega) j9 h2 x hb (by omega) ?_
      intro y hy
      rw [h4] at hy
      exact hv.1 y (List.mem_of_mem_take (List.mem_of_mem_take hy))
    · exact bad f (fget_bad hG h1 (by omega) hm hb hf) (rget_bare_any b m j v w hv hg (by omega) j9 h2 x f hb hf)
end Go.Proofs.YtekoniaobmapdaaGreat
