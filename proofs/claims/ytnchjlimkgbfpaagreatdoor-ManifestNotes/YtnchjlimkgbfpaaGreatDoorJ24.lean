/- The texts FPut, FBlk, in this order. -/
import Derived.Test.YtnchjlimkgbfpaaGreatDoorJ03
import Derived.Test.YtnchjlimkgbfpaaGreatDoorJ23
import Derived.Test.YtnchjlimkgbfpaaGreatDoorJ02

namespace Go.Proofs.YtnchjlimkgbfpaaGreatDoor
open Go.RowKit SumPlain
set_option linter.unusedVariables false
set_option maxRecDepth 20000
def frameOf (k : Int) (l : List Int) : List Int := guardOf (octets (l.length : Int) ++ k :: l)
theorem octets_len (n : Int) (h0 : 0 ≤ n) (h1 : n ≤ 18446744073709551615) : 1 ≤ (octets n).length ∧ (octets n).length ≤ 9 := by
  have := (octets_form n h0 h1).size
  have := size_bd n
  omega
theorem far_cell {w w' : World} {v : Value} {base : Nat} {l : List Int} (ho : OwnB w base v l) (hg : w.grownBy w' v.ownBlock) {b off : Nat} {x : Value} (hb : b < base) (hs : b < w.heap.size) (h : w.cell? ⟨b, off, none⟩ = some x) : w'.cell? ⟨b, off, none⟩ = some x := by
  rw [hg.cell_far ⟨b, off, none⟩ hs]
  · exact h
  · intro e
    have := (ho.lt b e.symm).1
    omega
theorem put_from {w : World} (x y : Value) (n : Int) (h0 : 0 ≤ n) (h1 : n ≤ 18446744073709551615) (wx : World) (hb : Below (w.heap.size + 1) (w.alloc (.cells #[x, y] 154)) wx) :
    Calls Tryz.prog 76 #[.int .u64 n] wx fun e w' => ∃ v, e = .returned v ∧ w'.cell? ⟨w.heap.size, 0, none⟩ = some x ∧ w'.cell? ⟨w.heap.size, 1, none⟩ = some y ∧
      Hid (∀ o, (w'.alloc o).cell? ⟨w.heap.size, 0, none⟩ = some x ∧ (w'.alloc o).cell? ⟨w.heap.size, 1, none⟩ = some y) ∧ Hid (OwnB w' (w.heap.size + 1) v (octets n)) ∧ Hid (w.heap.size + 1 ≤ w'.heap.size) ∧ Hid (Below wx.heap.size wx w') ∧ Hid (Below (w.heap.size + 1) (w.alloc (.cells #[x, y] 154)) w') := by
  refine (put_any n wx h0 h1).mono ?_
  rintro e w' ⟨v, rfl, ho, hb'⟩
  have hs := hb.size
  simp at hs
  have h2 := hb.trans (hb'.mono hs)
  have h3 : ∀ o, Below (w.heap.size + 1) (w.alloc (.cells #[x, y] 154)) (w'.alloc o) := fun o => h2.alloc (by have := h2.size; simpa using this) o
  refine ⟨v, rfl, ?_, ?_, fun o => ⟨?_, ?_⟩, OwnB.mono ho hs, Nat.le_trans hs hb'.size, hb', h2⟩
  · rw [h2.cell (by simp)]; simp [go_sem]
  · rw [h2.cell (by simp)]; simp [go_sem]
  · rw [(h3 o).cell (by simp)]; simp [go_sem]
  · rw [(h3 o).cell (by simp)]; simp [go_sem]
theorem le_al {n : Nat} {w : World} (h : n ≤ w.heap.size) (o : Obj) : n ≤ (w.alloc o).heap.size := by
  simp; omega
theorem own_shape {w : World} {base : Nat} {v : Value} {l : List Int} (h : OwnB w base v l) : ∃ a n c, v = .slice a n c ∧ Hid (n = l.length) := by
  obtain ⟨a, c, e, _⟩ := own_len h
  exact ⟨a, _, c, e, rfl⟩
theorem one_made (w : World) (k : Int) (h0 : 0 ≤ k) (h1 : k ≤ 255) : Octs (w.alloc (.cells #[.int .u8 k] 5)) (.slice (some ⟨w.heap.size, 0, none⟩) 1 1) [k] :=
  Octs.made w [k] (by simp; omega) (by unfold maxLen; simp)
set_option maxHeartbeats 1000000 in
theorem fput_good (k : Int) (a : Option Addr) (c : Nat) (l : List Int) (w : World) (hv : Octs w (.slice a l.length c) l) (h0 : 0 ≤ k) (h1 : k ≤ 255) (hl : l.length ≤ 65536) :
    Calls Tryz.prog 75 #[.agg #[.int .i64 k, .slice a l.length c]] w fun e w' => ∃ v', e = .returned (.tuple #[v', .int .i64 0]) ∧ OwnB w' w.heap.size v' (frameOf k l) ∧ Below w.heap.size w w' := by
  have HV : Hid (Octs w (.slice a l.length c) l) := hv
  clear hv
  have g0 : ¬ k < 0 := by omega
  have g1 : ¬ 255 < k := by omega
  have g2 : ¬ (65536 : Int) < (l.length : Int) := by omega
  have g3 : IntKind.u64.wrap (l.length : Int) = (l.length : Int) := wrap_u64_id _ (by omega) (by omega)
  have g4 : IntKind.u8.wrap k = k := by simp [IntKind.wrap, IntKind.bits, IntKind.signed]; omega
  have HL : Hid ((octets (l.length : Int)).length ≤ 9) := (octets_len _ (by omega) (by omega)).2
  have HL2 : Hid ((octets (l.length : Int)).length + [k].length ≤ 140737488355328) := by have := HL.out; unfold Hid; simp; omega
  have HP : Hid (∀ (wx : World), Below (w.heap.size + 1) (w.alloc (.cells #[.int .i64 k, .slice a l.length c] 154)) wx → Calls Tryz.prog 76 #[.int .u64 (l.length : Int)] wx fun e w' => ∃ v, e = .returned v ∧ w'.cell? ⟨w.heap.size, 0, none⟩ = some (.int .i64 k) ∧ w'.cell? ⟨w.heap.size, 1, none⟩ = some (.slice a l.length c) ∧
      Hid (∀ o, (w'.alloc o).cell? ⟨w.heap.size, 0, none⟩ = some (.int .i64 k) ∧ (w'.alloc o).cell? ⟨w.heap.size, 1, none⟩ = some (.slice a l.length c)) ∧ Hid (OwnB w' (w.heap.size + 1) v (octets (l.length : Int))) ∧ Hid (w.heap.size + 1 ≤ w'.heap.size) ∧ Hid (Below wx.heap.size wx w') ∧ Hid (Below (w.heap.size + 1) (w.alloc (.cells #[.int .i64 k, .slice a l.length c] 154)) w')) := fun wx hb => put_from _ _ _ (by omega) (by omega) wx hb
  have HB0 : Hid (Below (w.heap.size + 1) (w.alloc (.cells #[.int .i64 k, .slice a l.length c] 154)) (w.alloc (.cells #[.int .i64 k, .slice a l.length c] 154)).drew) := (Below.refl _ _).drew
  have HB1 : Hid (∀ o, Below (w.heap.size + 1) (w.alloc (.cells #[.int .i64 k, .slice a l.length c] 154)) ((w.alloc (.cells #[.int .i64 k, .slice a l.length c] 154)).alloc o).drew) := fun o => ((Below.refl _ _).alloc (by simp) o).drew
  have HO : Hid (∀ o : Obj, Octs ((w.alloc o).alloc (.cells #[.int .u8 k] 5)).drew (.slice (some ⟨w.heap.size + 1, 0, none⟩) 1 1) [k]) := fun o => by have := (one_made (w.alloc o) k h0 h1).up (up_dr (Below.refl _ _)); simpa using this
  have HE : Hid (frameOf k l = guardOf (octets (l.length : Int) ++ k :: l)) := rfl
  go_enter Tryz.func75, Tryz.ntmps75
  go_wp2_with fail
  go_region_held3 (fun w' => w'.cell? ⟨w.heap.size, 0, none⟩ = some (.int .i64 k) ∧ w'.cell? ⟨w.heap.size, 1, none⟩ = some (.slice a l.length c)) (first | with_reducible exact ⟨z0, z1⟩ | with_reducible exact ⟨y0, y1⟩ | with_reducible exact yy.out _ | (simp [go_sem, y0, y1]; done) | (simp [go_sem]; done)) (first
    | (go_at_call 76; with_reducible refine (HP.out _ HB0.out).mono ?_; rintro e w' ⟨v, rfl, y0, y1, yy, ho, sz, hx, hb⟩)
    | (go_at_call 76; with_reducible refine (HP.out _ (HB1.out _)).mono ?_; rintro e w' ⟨v, rfl, y0, y1, yy, ho, sz, hx, hb⟩)
    | (refine step_append_octs _ (by rfl) _ _ (by rfl) (w.heap.size + 1) v (octets (l.length : Int)) (by rfl) (by with_reducible exact ho.out) (.slice (some ⟨w.heap.size + 1, 0, none⟩) 1 1) [k] (by rfl) (by exact (HO.out _).up hx.out) HL2.out sz.out ?_; intro v3 w3 o3 g3; have z0 := far_cell ho.out g3 (Nat.lt_succ_self _) sz.out y0; have z1 := far_cell ho.out g3 (Nat.lt_succ_self _) sz.out y1; obtain ⟨a3, n3, c3, rfl, N3⟩ := own_shape o3; have HB3 : Hid (Below (w.heap.size + 1) (w.alloc (.cells #[.int .i64 k, .slice a l.length c] 154)) w3) := hb.out.grown g3 sz.out (fun j hj => (ho.out.lt j hj).1); have O3 : Hid (OwnB w3 (w.heap.size + 1) (.slice a3 n3 c3) (octets (l.length : Int) ++ [k])) := o3; clear o3 g3)
    | (refine step_append_octs _ (by rfl) _ _ (by rfl) (w.heap.size + 1) v (octets (l.length : Int)) (by rfl) (own_up ho.out (up_alloc _ _)) (.slice (some ⟨w'.heap.size, 0, none⟩) 1 1) [k] (by rfl) (one_made _ k h0 h1) HL2.out (le_al sz.out _) ?_; intro v3 w3 o3 g3; have z0 := far_cell (own_up ho.out (up_alloc _ _)) g3 (Nat.lt_succ_self _) (le_al sz.out _) (yy.out _).1; have z1 := far_cell (own_up ho.out (up_alloc _ _)) g3 (Nat.lt_succ_self _) (le_al sz.out _) (yy.out _).2; obtain ⟨a3, n3, c3, rfl, N3⟩ := own_shape o3; have HB3 : Hid (Below (w.heap.size + 1) (w.alloc (.cells #[.int .i64 k, .slice a l.length c] 154)) w3) := (hb.out.alloc sz.out _).grown g3 (le_al sz.out _) (fun j hj => (ho.out.lt j hj).1); have O3 : Hid (OwnB w3 (w.heap.size + 1) (.slice a3 n3 c3) (octets (l.length : Int) ++ [k])) := o3; clear o3 g3))
  all_goals
    have HU3 : Hid (Below w.heap.size w w3) := (up_alloc w _).trans (HB3.out.mono (by omega))
    have HV3 : Hid (Octs w3 (.slice a l.length c) l) := HV.out.up HU3.out
    have S3 : Hid (w.heap.size + 1 ≤ w3.heap.size) := by have := HB3.out.size; unfold Hid; simpa using this
    have HL3 : Hid ((octets (l.length : Int) ++ [k]).length + l.length ≤ 140737488351232) := by have := HL.out; unfold Hid; simp; omega
    have HX : Hid (∀ x ∈ octets (l.length : Int) ++ k :: l, 0 ≤ x ∧ x ≤ 255) := by
      intro x hx
      rcases List.mem_append.1 hx with hx | hx
      · exact (octets_form _ (by omega) (by omega)).octet x hx
      · rcases List.mem_cons.1 hx with hx | hx
        · omega
        · exact HV.out.1 x hx
    clear HB3 HL2 HP HB0 HB1 HO g4 N3
    go_wp2_with (at_builtin; refine wpList_append_octs _ rfl _ _ rfl (w.heap.size + 1) _ _ rfl O3.out _ l rfl HV3.out ?c1 S3.out ?_)
    case c1 => have := HL3.out; omega
    intro v4 w4 o4 g4
    have HB4 : Hid (Below w.heap.size w w4) := HU3.out.grown g4 (by have := S3.out; omega) (fun j hj => by have := (O3.out.lt j hj).1; omega)
    obtain ⟨a4, c4, e4, _⟩ := own_len o4
    generalize hn4 : (octets (l.length : Int) ++ k :: l).length = n4 at e4
    subst e4
    have O4 : Hid (Octs w4 (.slice a4 n4 c4) (octets (l.length : Int) ++ k :: l)) := Octs.own o4 HX.out
    clear o4 g4 O3 hn4
    go_wp2_with fail
    refine (guard_any _ _ _ O4.out (by have := HL3.out; simp at this ⊢; omega)).mono ?_
    rintro e w5 ⟨v5, rfl, o5, b5⟩
    obtain ⟨a5, c5, e5, _⟩ := own_len o5
    generalize hn5 : (guardOf (octets (l.length : Int) ++ k :: l)).length = n5 at e5
    subst e5
    have O5 : Hid (OwnB w5 w.heap.size (.slice a5 n5 c5) (frameOf k l)) := OwnB.mono o5 HB4.out.size
    have HB5 : Hid (Below w.heap.size w w5) := HB4.out.trans (b5.mono HB4.out.size)
    clear o5 b5 hn5
    go_wp2
    go_ret2
    exact ⟨_, rfl, O5.out, HB5.out⟩
end Go.Proofs.YtnchjlimkgbfpaaGreatDoor

namespace Go.Proofs.YtnchjlimkgbfpaaGreatDoor
open Go.RowKit SumPlain
set_option linter.unusedVariables false
set_option maxRecDepth 20000
def set2 (w : World) (N : Nat) (a b : Value) : World := (w.setCell ⟨N, 0, none⟩ a).setCell ⟨N, 1, none⟩ b
theorem set2_blk {w : World} {N : Nat} {t : TypeId} {x0 x1 : Value} (h : w.heap[N]? = some (.cells #[x0, x1] t)) (a b : Value) : (set2 w N a b).heap[N]? = some (.cells #[a, b] t) :=
  blk_set (blk_set h 0 a) 1 b
theorem set2_grown (w : World) (N : Nat) (a b : Value) : w.grownBy (set2 w N a b) (some N) :=
  grown_trans (grown_set w ⟨N, 0, none⟩ a) (grown_set _ ⟨N, 1, none⟩ b)
theorem results_rec3 {fn : Func} {t : TypeId} (h : fn.results = #[.cell 2 t, .tmp 3, .tmp 4]) (hl : t = 154 ∨ t = 104) (tmps : Array Value) (w : World) {N : Nat} {a b : Value} (ht : tmps.getD 2 undef = .pointer (some ⟨N, 0, none⟩))
    (hc : w.heap[N]? = some (.cells #[a, b] t)) : (results fn tmps).run Tryz.prog w = .ok (.tuple #[.agg #[a, b], tmps.getD 3 undef, tmps.getD 4 undef]) w := by
  have c0 := blk_cell hc 0 a rfl
  have c1 := blk_cell hc 1 b rfl
  have ht' : tmps[2]?.getD undef = .pointer (some ⟨N, 0, none⟩) := by simpa using ht
  rcases hl with rfl | rfl
  · simp only [results, h]
    simp [ht', go_sem, c0, c1]
  · simp only [results, h]
    simp [ht', go_sem, c0, c1]
def NewB (w : World) (base : Nat) (v : Value) (l : List Int) : Prop := Octs w v l ∧ ∀ g, v.ownBlock = some g → base ≤ g
theorem NewB.far {w w' : World} {base : Nat} {v : Value} {l : List Int} (h : NewB w base v l) {r : Option Nat} (hg : w.grownBy w' r) (hr : ∀ g, v.ownBlock = some g → r ≠ some g) : NewB w' base v l := by
  refine ⟨h.1.moved ?_, h.2⟩
  intro b off x hne hb hc
  have hlt : b < w.heap.size := by
    rcases Nat.lt_or_ge b w.heap.size with q | q
    · exact q
    · simp [World.cell?, Array.getElem?_eq_none q] at hc
  rw [hg.cell_far ⟨b, off, none⟩ hlt (fun e => hr b hb e.symm)]
  exact hc
theorem NewB.up {w w' : World} {base : Nat} {v : Value} {l : List Int} (h : NewB w base v l) (hb : Below w.heap.size w w') : NewB w' base v l := ⟨h.1.up hb, h.2⟩
theorem NewB.mono {w : World} {base base' : Nat} {v : Value} {l : List Int} (h : NewB w base v l) (hb : base' ≤ base) : NewB w base' v l := ⟨h.1, fun g e => Nat.le_trans hb (h.2 g e)⟩
theorem OwnB.fresh {w : World} {base : Nat} {v : Value} {l : List Int} (h : OwnB w base v l) (hx : ∀ x ∈ l, 0 ≤ x ∧ x ≤ 255) : NewB w base v l := ⟨Octs.own h hx, fun g e => (h.lt g e).1⟩
theorem NewB.nil (w : World) (base : Nat) : NewB w base (.slice none 0 0) [] := (OwnB.nil w base).fresh (by simp)
end Go.Proofs.YtnchjlimkgbfpaaGreatDoor
