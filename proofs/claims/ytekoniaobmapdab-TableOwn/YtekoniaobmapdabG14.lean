/- The texts XEnc3, XRot, XFirst, XNear, XOct, FPut, FBlk, FGet, in this order. -/
import Derived.Test.YtekoniaobmapdabXEnc2
import Derived.Test.YtekoniaobmapdabG08
import Derived.Test.YtekoniaobmapdabXEnc
import Derived.Test.YtekoniaobmapdabG07
import Derived.Test.YtekoniaobmapdabG05
import Derived.Test.YtekoniaobmapdabG06

/- The document's Encode of layer 9, whatever it is given. -/
namespace Go.Proofs.Ytekoniaobmapdab
open Go.RowKit SumPlain
set_option linter.unusedVariables false

theorem refEncB_any (l : List En) (v : Value) (w : World) (hv : EntsR w v l) :
    Calls Try.prog 17 #[v] w fun e w' => ∃ v', e = .returned (.tuple #[v', .int .i64 (encB l).2]) ∧ OwnB w' w.heap.size v' (encB l).1 ∧ Below w.heap.size w w' := by
  obtain ⟨a, c, rfl, hc, hm⟩ := hv.len
  by_cases h0 : chkB l = 0
  · have e : encB l = (guardOf (blockO l), 0) := by unfold encB; rw [if_pos h0]
    rw [e]
    exact refEncode_good l a c w hv h0
  · have e : encB l = ([], chkB l) := by unfold encB; rw [if_neg h0]
    rw [e]
    have HC : Hid (Calls Try.prog 41 #[.slice a l.length c] w fun e w' => e = .returned (.int .i64 (chkB l)) ∧ Hid (Below w.heap.size w w')) := refCheckB_any l _ w hv
    generalize chkB l = q at *
    have hq1 : (q == 0) = false := by simp [h0]
    have hq2 : (q != 0) = true := by simp [h0]
    clear hv
    go_enter Try.func17, Try.ntmps17
    go_wp2_with fail
    refine HC.out.mono ?_
    rintro e w1 ⟨rfl, b1⟩
    go_wp2_with fail
    go_ret2
    exact ⟨_, rfl, OwnB.nil _ _, b1.out⟩
end Go.Proofs.Ytekoniaobmapdab

/- A block with one octet that is another one. -/
namespace Go.Proofs.Ytekoniaobmapdab
open Go.RowKit SumPlain
set_option linter.unusedVariables false

theorem set_at (G : List Int) (p : Nat) (hp : p < G.length) (v : Int) : G.set p v = G.take p ++ ([v] ++ G.drop (p + 1)) := by
  rw [List.set_eq_take_append_cons_drop, if_pos hp]
  rfl
end Go.Proofs.Ytekoniaobmapdab

/- The document's First. -/
namespace Go.Proofs.Ytekoniaobmapdab
open Go.RowKit
set_option linter.unusedVariables false
set_option linter.unusedSimpArgs false

theorem set4_blk {w : World} {N : Nat} {t : TypeId} {x0 x1 x2 x3 : Value} (h : w.heap[N]? = some (.cells #[x0, x1, x2, x3] t)) (a b c d : Value) : ((((w.setCell ⟨N, 0, none⟩ a).setCell ⟨N, 1, none⟩ b).setCell ⟨N, 2, none⟩ c).setCell ⟨N, 3, none⟩ d).heap[N]? = some (.cells #[a, b, c, d] t) := by
  have := blk_set (blk_set (blk_set (blk_set h 0 a) 1 b) 2 c) 3 d
  simpa only [List.setIfInBounds_toArray, List.set_cons_zero, List.set_cons_succ] using this
theorem set4_grown (w : World) (N : Nat) (a b c d : Value) : w.grownBy ((((w.setCell ⟨N, 0, none⟩ a).setCell ⟨N, 1, none⟩ b).setCell ⟨N, 2, none⟩ c).setCell ⟨N, 3, none⟩ d) (some N) :=
  grown_trans (grown_trans (grown_trans (grown_set w ⟨N, 0, none⟩ a) (grown_set _ ⟨N, 1, none⟩ b)) (grown_set _ ⟨N, 2, none⟩ c)) (grown_set _ ⟨N, 3, none⟩ d)

instance : Inhabited En := ⟨⟨⟨#[]⟩, 0, 0, ⟨#[]⟩⟩⟩
def firstF (l : List En) (key : ByteArray) (seq : Int) : Option En := l.find? fun e => (e.key.toList == key.toList) && decide (e.seq ≤ seq)
/-- What First answers. -/
def firstV (l : List En) (key : ByteArray) (seq : Int) : En × Bool := match firstF l key seq with | none => (default, false) | some y => (y, true)
theorem firstF_drop {l : List En} {key : ByteArray} {seq : Int} {i : Nat} {y : En} (h : l[i]? = some y) : firstF (l.drop i) key seq = if ((y.key.toList == key.toList) && decide (y.seq ≤ seq)) = true then some y else firstF (l.drop (i + 1)) key seq := by
  have hi := (List.getElem?_eq_some_iff.1 h).1
  rw [List.drop_eq_getElem_cons hi, (List.getElem?_eq_some_iff.1 h).2]
  unfold firstF
  rw [List.find?_cons]
  cases q : ((y.key.toList == key.toList) && decide (y.seq ≤ seq)) <;> simp
end Go.Proofs.Ytekoniaobmapdab

/- What is sought in a block; how long a block of two is. -/
namespace Go.Proofs.Ytekoniaobmapdab
open Go.RowKit SumPlain
set_option linter.unusedVariables false
set_option linter.unusedSimpArgs false

/-! ### how long -/
end Go.Proofs.Ytekoniaobmapdab

/- Octets cut; where they lie. -/
namespace Go.Proofs.Ytekoniaobmapdab
open Go.RowKit SumPlain
set_option linter.unusedVariables false

theorem Octs.far {w w' : World} {v : Value} {l : List Int} {r : Option Nat} (h : Octs w v l) (hg : w.grownBy w' r) (hne : ∀ b, v.ownBlock = some b → l ≠ [] → some b ≠ r) : Octs w' v l :=
  h.moved fun b off x hn hv hc => hg.cell hc (hne b hv hn)


theorem Octs.lt {w : World} {v : Value} {l : List Int} (h : Octs w v l) (b : Nat) (hb : v.ownBlock = some b) (hn : l ≠ []) : b < w.heap.size := by
  obtain ⟨_, h⟩ := h
  rcases h with ⟨h0, _⟩ | ⟨_, b', off, cap, rfl, _, _, hj⟩
  · exact absurd h0 hn
  · simp [Value.ownBlock] at hb
    subst hb
    cases l with
    | nil => exact absurd rfl hn
    | cons x r => exact World.block_lt_of_cell? w ⟨b', off + 0, none⟩ (hj 0 x rfl)


theorem Octs.back {w : World} {b off cap n : Nat} {l : List Int} (h : Octs w (.slice (some ⟨b, off, none⟩) n cap) l) (hn : n = l.length) (j : Nat) (hj : j ≤ l.length) (hc : l.length ≤ cap) : Octs w (.slice (some ⟨b, off + j, none⟩) (n - j) (cap - j)) (l.drop j) := by
  obtain ⟨hx, h0⟩ := h
  refine ⟨fun x hx' => hx x (List.mem_of_mem_drop hx'), ?_⟩
  have hlen : (l.drop j).length = n - j := by rw [List.length_drop, hn]
  by_cases he : l.drop j = []
  · have : n - j = 0 := by rw [← hlen, he]; rfl
    rw [he, this]
    exact .inl ⟨rfl, _, _, rfl, fun h => by cases h⟩
  · rcases h0 with ⟨e, _⟩ | ⟨_, b', off', cap', hv, hc', hm, hcell⟩
    · subst e; simp at he
    · simp only [Value.slice.injEq, Option.some.injEq, Addr.mk.injEq] at hv
      obtain ⟨⟨rfl, rfl, _⟩, _, rfl⟩ := hv
      refine .inr ⟨he, b, off + j, cap - j, by rw [hlen], by rw [List.length_drop]; omega, by omega, fun i x hi => ?_⟩
      rw [List.getElem?_drop] at hi
      have := hcell (j + i) x hi
      rw [Nat.add_assoc]
      exact this


theorem Octs.form {w : World} {a : Option Addr} {c : Nat} {l : List Int} (h : Octs w (.slice a l.length c) l) : (a = none ∧ l = [] ∧ c = 0) ∨ (∃ x, a = some x ∧ l = []) ∨ (∃ b off, a = some ⟨b, off, none⟩ ∧ l ≠ [] ∧ l.length ≤ c ∧ c ≤ maxLen) := by
  obtain ⟨hx, hv⟩ := h
  rcases hv with ⟨rfl, a', cap, e, ha⟩ | ⟨hne, b, off, cap, e, h1, h2, h3⟩
  · simp at e
    obtain ⟨rfl, rfl⟩ := e
    cases a with
    | none => exact .inl ⟨rfl, rfl, ha rfl⟩
    | some x => exact .inr (.inl ⟨x, rfl, rfl⟩)
  · simp at e
    obtain ⟨rfl, rfl⟩ := e
    exact .inr (.inr ⟨b, off, rfl, hne, h1, h2⟩)


theorem wrap64_id (n : Int) (h0 : 0 ≤ n) (h1 : n ≤ 9223372036854775807) : IntKind.i64.wrap n = n := by
  simp [IntKind.wrap, IntKind.bits, IntKind.signed]; omega
theorem Octs.cut {w : World} {b off cap n : Nat} {l : List Int} (h : Octs w (.slice (some ⟨b, off, none⟩) n cap) l) (hn : n = l.length) (j : Nat) (hj : j ≤ l.length) : Octs w (.slice (some ⟨b, off, none⟩) j cap) (l.take j) := by
  have := h.front (p := l.take j) (q := l.drop j) (List.take_append_drop j l).symm hn
  rw [List.length_take, Nat.min_eq_left hj] at this
  exact this
end Go.Proofs.Ytekoniaobmapdab

/- frame.Put: what it answers for any record whose data is read as octets: the errors, or the record's octets in memory of the call's own. -/
namespace Go.Proofs.Ytekoniaobmapdab
open Go.RowKit SumPlain
set_option linter.unusedVariables false
set_option maxRecDepth 20000

/-- A record's octets. -/
def frameOf (k : Int) (l : List Int) : List Int := guardOf (octets (l.length : Int) ++ k :: l)

theorem far_cell {w w' : World} {v : Value} {base : Nat} {l : List Int} (ho : OwnB w base v l) (hg : w.grownBy w' v.ownBlock) {b off : Nat} {x : Value} (hb : b < base) (hs : b < w.heap.size) (h : w.cell? ⟨b, off, none⟩ = some x) : w'.cell? ⟨b, off, none⟩ = some x := by
  rw [hg.cell_far ⟨b, off, none⟩ hs]
  · exact h
  · intro e
    have := (ho.lt b e.symm).1
    omega

/-- varint.Put from any later world; what the box holds stays. -/
theorem put_from {w : World} (x y : Value) (n : Int) (h0 : 0 ≤ n) (h1 : n ≤ 18446744073709551615) (wx : World) (hb : Below (w.heap.size + 1) (w.alloc (.cells #[x, y] 88)) wx) :
    Calls Try.prog 58 #[.int .u64 n] wx fun e w' => ∃ v, e = .returned v ∧ w'.cell? ⟨w.heap.size, 0, none⟩ = some x ∧ w'.cell? ⟨w.heap.size, 1, none⟩ = some y ∧
      Hid (∀ o, (w'.alloc o).cell? ⟨w.heap.size, 0, none⟩ = some x ∧ (w'.alloc o).cell? ⟨w.heap.size, 1, none⟩ = some y) ∧ Hid (OwnB w' (w.heap.size + 1) v (octets n)) ∧ Hid (w.heap.size + 1 ≤ w'.heap.size) ∧ Hid (Below wx.heap.size wx w') ∧ Hid (Below (w.heap.size + 1) (w.alloc (.cells #[x, y] 88)) w') := by
  refine (put_any n wx h0 h1).mono ?_
  rintro e w' ⟨v, rfl, ho, hb'⟩
  have hs := hb.size
  simp at hs
  have h2 := hb.trans (hb'.mono hs)
  have h3 : ∀ o, Below (w.heap.size + 1) (w.alloc (.cells #[x, y] 88)) (w'.alloc o) := fun o => h2.alloc (by have := h2.size; simpa using this) o
  refine ⟨v, rfl, ?_, ?_, fun o => ⟨?_, ?_⟩, OwnB.mono ho hs, Nat.le_trans hs hb'.size, hb', h2⟩
  · rw [h2.cell (by simp)]; simp [go_sem]
  · rw [h2.cell (by simp)]; simp [go_sem]
  · rw [(h3 o).cell (by simp)]; simp [go_sem]
  · rw [(h3 o).cell (by simp)]; simp [go_sem]

theorem le_al {n : Nat} {w : World} (h : n ≤ w.heap.size) (o : Obj) : n ≤ (w.alloc o).heap.size := by
  simp; omega

theorem one_made (w : World) (k : Int) (h0 : 0 ≤ k) (h1 : k ≤ 255) : Octs (w.alloc (.cells #[.int .u8 k] 5)) (.slice (some ⟨w.heap.size, 0, none⟩) 1 1) [k] :=
  Octs.made w [k] (by simp; omega) (by unfold maxLen; simp)

set_option maxHeartbeats 1000000 in
theorem fput_good (k : Int) (a : Option Addr) (c : Nat) (l : List Int) (w : World) (hv : Octs w (.slice a l.length c) l) (h0 : 0 ≤ k) (h1 : k ≤ 255) (hl : l.length ≤ 65536) :
    Calls Try.prog 59 #[.agg #[.int .i64 k, .slice a l.length c]] w fun e w' => ∃ v', e = .returned (.tuple #[v', .int .i64 0]) ∧ OwnB w' w.heap.size v' (frameOf k l) ∧ Below w.heap.size w w' := by
  have HV : Hid (Octs w (.slice a l.length c) l) := hv
  clear hv
  have g0 : ¬ k < 0 := by omega
  have g1 : ¬ 255 < k := by omega
  have g2 : ¬ (65536 : Int) < (l.length : Int) := by omega
  have g3 : IntKind.u64.wrap (l.length : Int) = (l.length : Int) := wrap_u64_id _ (by omega) (by omega)
  have g4 : IntKind.u8.wrap k = k := by simp [IntKind.wrap, IntKind.bits, IntKind.signed]; omega
  have HL : Hid ((octets (l.length : Int)).length ≤ 9) := (octets_len _ (by omega) (by omega)).2
  have HL2 : Hid ((octets (l.length : Int)).length + [k].length ≤ 140737488355328) := by have := HL.out; unfold Hid; simp; omega
  have HP : Hid (∀ (wx : World), Below (w.heap.size + 1) (w.alloc (.cells #[.int .i64 k, .slice a l.length c] 88)) wx → Calls Try.prog 58 #[.int .u64 (l.length : Int)] wx fun e w' => ∃ v, e = .returned v ∧ w'.cell? ⟨w.heap.size, 0, none⟩ = some (.int .i64 k) ∧ w'.cell? ⟨w.heap.size, 1, none⟩ = some (.slice a l.length c) ∧
      Hid (∀ o, (w'.alloc o).cell? ⟨w.heap.size, 0, none⟩ = some (.int .i64 k) ∧ (w'.alloc o).cell? ⟨w.heap.size, 1, none⟩ = some (.slice a l.length c)) ∧ Hid (OwnB w' (w.heap.size + 1) v (octets (l.length : Int))) ∧ Hid (w.heap.size + 1 ≤ w'.heap.size) ∧ Hid (Below wx.heap.size wx w') ∧ Hid (Below (w.heap.size + 1) (w.alloc (.cells #[.int .i64 k, .slice a l.length c] 88)) w')) := fun wx hb => put_from _ _ _ (by omega) (by omega) wx hb
  have HB0 : Hid (Below (w.heap.size + 1) (w.alloc (.cells #[.int .i64 k, .slice a l.length c] 88)) (w.alloc (.cells #[.int .i64 k, .slice a l.length c] 88)).drew) := (Below.refl _ _).drew
  have HB1 : Hid (∀ o, Below (w.heap.size + 1) (w.alloc (.cells #[.int .i64 k, .slice a l.length c] 88)) ((w.alloc (.cells #[.int .i64 k, .slice a l.length c] 88)).alloc o).drew) := fun o => ((Below.refl _ _).alloc (by simp) o).drew
  have HO : Hid (∀ o : Obj, Octs ((w.alloc o).alloc (.cells #[.int .u8 k] 5)).drew (.slice (some ⟨w.heap.size + 1, 0, none⟩) 1 1) [k]) := fun o => by have := (one_made (w.alloc o) k h0 h1).up (up_dr (Below.refl _ _)); simpa using this
  have HE : Hid (frameOf k l = guardOf (octets (l.length : Int) ++ k :: l)) := rfl
  go_enter Try.func59, Try.ntmps59
  go_wp2_with fail
  go_region_held3 (fun w' => w'.cell? ⟨w.heap.size, 0, none⟩ = some (.int .i64 k) ∧ w'.cell? ⟨w.heap.size, 1, none⟩ = some (.slice a l.length c)) (first | with_reducible exact ⟨z0, z1⟩ | with_reducible exact ⟨y0, y1⟩ | with_reducible exact yy.out _ | (simp [go_sem, y0, y1]; done) | (simp [go_sem]; done)) (first
    | (go_at_call 58; with_reducible refine (HP.out _ HB0.out).mono ?_; rintro e w' ⟨v, rfl, y0, y1, yy, ho, sz, hx, hb⟩)
    | (go_at_call 58; with_reducible refine (HP.out _ (HB1.out _)).mono ?_; rintro e w' ⟨v, rfl, y0, y1, yy, ho, sz, hx, hb⟩)
    | (refine step_append_octs _ (by rfl) _ _ (by rfl) (w.heap.size + 1) v (octets (l.length : Int)) (by rfl) (by with_reducible exact ho.out) (.slice (some ⟨w.heap.size + 1, 0, none⟩) 1 1) [k] (by rfl) (by exact (HO.out _).up hx.out) HL2.out sz.out ?_; intro v3 w3 o3 g3; have z0 := far_cell ho.out g3 (Nat.lt_succ_self _) sz.out y0; have z1 := far_cell ho.out g3 (Nat.lt_succ_self _) sz.out y1; obtain ⟨a3, n3, c3, rfl, N3⟩ := own_shape o3; have HB3 : Hid (Below (w.heap.size + 1) (w.alloc (.cells #[.int .i64 k, .slice a l.length c] 88)) w3) := hb.out.grown g3 sz.out (fun j hj => (ho.out.lt j hj).1); have O3 : Hid (OwnB w3 (w.heap.size + 1) (.slice a3 n3 c3) (octets (l.length : Int) ++ [k])) := o3; clear o3 g3)
    | (refine step_append_octs _ (by rfl) _ _ (by rfl) (w.heap.size + 1) v (octets (l.length : Int)) (by rfl) (own_up ho.out (up_alloc _ _)) (.slice (some ⟨w'.heap.size, 0, none⟩) 1 1) [k] (by rfl) (one_made _ k h0 h1) HL2.out (le_al sz.out _) ?_; intro v3 w3 o3 g3; have z0 := far_cell (own_up ho.out (up_alloc _ _)) g3 (Nat.lt_succ_self _) (le_al sz.out _) (yy.out _).1; have z1 := far_cell (own_up ho.out (up_alloc _ _)) g3 (Nat.lt_succ_self _) (le_al sz.out _) (yy.out _).2; obtain ⟨a3, n3, c3, rfl, N3⟩ := own_shape o3; have HB3 : Hid (Below (w.heap.size + 1) (w.alloc (.cells #[.int .i64 k, .slice a l.length c] 88)) w3) := (hb.out.alloc sz.out _).grown g3 (le_al sz.out _) (fun j hj => (ho.out.lt j hj).1); have O3 : Hid (OwnB w3 (w.heap.size + 1) (.slice a3 n3 c3) (octets (l.length : Int) ++ [k])) := o3; clear o3 g3))
  all_goals
    have HU3 : Hid (Below w.heap.size w w3) := (up_alloc w _).trans (HB3.out.mono (by omega))
    have HV3 : Hid (Octs w3 (.slice a l.length c) l) := HV.out.up HU3.out
    have S3 : Hid (w.heap.size + 1 ≤ w3.heap.size) := by have := HB3.out.size; unfold Hid; simpa using this
    have HL3 : Hid ((octets (l.length : Int) ++ [k]).length + l.length ≤ 140737488351232) := by have := HL.out; unfold Hid; simp; omega
    have HX : Hid (∀ x ∈ octets (l.length : Int) ++ k :: l, 0 ≤ x ∧ x ≤ 255) := by
      intro x hx
      rcases List.mem_append.1 hx with hx | hx
      · exact (octets_form _ (by omega) (by omega)).octet x hx
      · rcases List.mem_cons.1 hx with hx | hx
        · omega
        · exact HV.out.1 x hx
    clear HB3 HL2 HP HB0 HB1 HO g4 N3
    go_wp2_with (at_builtin; refine wpList_append_octs _ rfl _ _ rfl (w.heap.size + 1) _ _ rfl O3.out _ l rfl HV3.out ?c1 S3.out ?_)
    case c1 => have := HL3.out; omega
    intro v4 w4 o4 g4
    have HB4 : Hid (Below w.heap.size w w4) := HU3.out.grown g4 (by have := S3.out; omega) (fun j hj => by have := (O3.out.lt j hj).1; omega)
    obtain ⟨a4, c4, e4, _⟩ := own_len o4
    generalize hn4 : (octets (l.length : Int) ++ k :: l).length = n4 at e4
    subst e4
    have O4 : Hid (Octs w4 (.slice a4 n4 c4) (octets (l.length : Int) ++ k :: l)) := Octs.own o4 HX.out
    clear o4 g4 O3 hn4
    go_wp2_with fail
    refine (guard_any _ _ _ O4.out (by have := HL3.out; simp at this ⊢; omega)).mono ?_
    rintro e w5 ⟨v5, rfl, o5, b5⟩
    obtain ⟨a5, c5, e5, _⟩ := own_len o5
    generalize hn5 : (guardOf (octets (l.length : Int) ++ k :: l)).length = n5 at e5
    subst e5
    have O5 : Hid (OwnB w5 w.heap.size (.slice a5 n5 c5) (frameOf k l)) := OwnB.mono o5 HB4.out.size
    have HB5 : Hid (Below w.heap.size w w5) := HB4.out.trans (b5.mono HB4.out.size)
    clear o5 b5 hn5
    go_wp2
    go_ret2
    exact ⟨_, rfl, O5.out, HB5.out⟩
end Go.Proofs.Ytekoniaobmapdab

/- Blocks; a record through its own block; octets that lie in new memory. -/
namespace Go.Proofs.Ytekoniaobmapdab
open Go.RowKit SumPlain
set_option linter.unusedVariables false
set_option maxRecDepth 20000

/-! ### blocks -/
/-- A record is stored into a block. -/
def set2 (w : World) (N : Nat) (a b : Value) : World := (w.setCell ⟨N, 0, none⟩ a).setCell ⟨N, 1, none⟩ b
theorem set2_blkF {w : World} {N : Nat} {t : TypeId} {x0 x1 : Value} (h : w.heap[N]? = some (.cells #[x0, x1] t)) (a b : Value) : (set2 w N a b).heap[N]? = some (.cells #[a, b] t) :=
  blk_set (blk_set h 0 a) 1 b
theorem set2_grownF (w : World) (N : Nat) (a b : Value) : w.grownBy (set2 w N a b) (some N) :=
  grown_trans (grown_set w ⟨N, 0, none⟩ a) (grown_set _ ⟨N, 1, none⟩ b)

/-- A record through the result's own block, and two numbers. -/
theorem results_rec3 {fn : Func} {t : TypeId} (h : fn.results = #[.cell 2 t, .tmp 3, .tmp 4]) (hl : t = 88 ∨ t = 54) (tmps : Array Value) (w : World) {N : Nat} {a b : Value} (ht : tmps.getD 2 undef = .pointer (some ⟨N, 0, none⟩))
    (hc : w.heap[N]? = some (.cells #[a, b] t)) : (results fn tmps).run Try.prog w = .ok (.tuple #[.agg #[a, b], tmps.getD 3 undef, tmps.getD 4 undef]) w := by
  have c0 := blk_cell hc 0 a rfl
  have c1 := blk_cell hc 1 b rfl
  have ht' : tmps[2]?.getD undef = .pointer (some ⟨N, 0, none⟩) := by simpa using ht
  rcases hl with rfl | rfl
  · simp only [results, h]
    simp [ht', go_sem, c0, c1]
  · simp only [results, h]
    simp [ht', go_sem, c0, c1]

/-- The slice v holds the octets l, and lies in no block below base. -/
def NewB (w : World) (base : Nat) (v : Value) (l : List Int) : Prop := Octs w v l ∧ ∀ g, v.ownBlock = some g → base ≤ g

theorem NewB.far {w w' : World} {base : Nat} {v : Value} {l : List Int} (h : NewB w base v l) {r : Option Nat} (hg : w.grownBy w' r) (hr : ∀ g, v.ownBlock = some g → r ≠ some g) : NewB w' base v l := by
  refine ⟨h.1.moved ?_, h.2⟩
  intro b off x hne hb hc
  have hlt : b < w.heap.size := by
    rcases Nat.lt_or_ge b w.heap.size with q | q
    · exact q
    · simp [World.cell?, Array.getElem?_eq_none q] at hc
  rw [hg.cell_far ⟨b, off, none⟩ hlt (fun e => hr b hb e.symm)]
  exact hc
theorem NewB.up {w w' : World} {base : Nat} {v : Value} {l : List Int} (h : NewB w base v l) (hb : Below w.heap.size w w') : NewB w' base v l := ⟨h.1.up hb, h.2⟩
theorem NewB.mono {w : World} {base base' : Nat} {v : Value} {l : List Int} (h : NewB w base v l) (hb : base' ≤ base) : NewB w base' v l := ⟨h.1, fun g e => Nat.le_trans hb (h.2 g e)⟩
theorem OwnB.fresh {w : World} {base : Nat} {v : Value} {l : List Int} (h : OwnB w base v l) (hx : ∀ x ∈ l, 0 ≤ x ∧ x ≤ 255) : NewB w base v l := ⟨Octs.own h hx, fun g e => (h.lt g e).1⟩
theorem NewB.nil (w : World) (base : Nat) : NewB w base (.slice none 0 0) [] := (OwnB.nil w base).fresh (by simp)
end Go.Proofs.Ytekoniaobmapdab

/- frame.Get over any octets: the record at their beginning, how many octets it has, and the error, as the plain function 'fget' says. -/
namespace Go.Proofs.Ytekoniaobmapdab
open Go.RowKit SumPlain
set_option linter.unusedVariables false
set_option maxRecDepth 20000

/-- What Get tells of octets: kind, data, how many octets, the error. -/
def fget (b : List Int) : Int × List Int × Int × Int :=
  if (getOf b).2.2 ≠ 0 then (0, [], 0, (getOf b).2.2) else
  if 65536 < (getOf b).1 then (0, [], 0, 5) else
  if (b.length : Int) < (getOf b).2.1 + 1 + (getOf b).1 + 4 then (0, [], 0, 8) else
  if (bareOf (b.take ((getOf b).2.1 + 1 + (getOf b).1 + 4).toNat)).2 ≠ 0 then (0, [], 0, (bareOf (b.take ((getOf b).2.1 + 1 + (getOf b).1 + 4).toNat)).2) else
  ((bareOf (b.take ((getOf b).2.1 + 1 + (getOf b).1 + 4).toNat)).1.getD (getOf b).2.1.toNat 0, (bareOf (b.take ((getOf b).2.1 + 1 + (getOf b).1 + 4).toNat)).1.drop ((getOf b).2.1.toNat + 1), (getOf b).2.1 + 1 + (getOf b).1 + 4, 0)

theorem getRet_injF {l : List Int} {n j e : Int} (h : getRet l = .tuple #[.int .u64 n, .int .i64 j, .int .i64 e]) : getOf l = (n, j, e) := by
  unfold getRet at h
  simp at h
  obtain ⟨h1, h2, h3⟩ := h
  ext <;> simp [h1, h2, h3]

theorem fget_err {b : List Int} {n j e : Int} (h : getOf b = (n, j, e)) (he : e ≠ 0) : fget b = (0, [], 0, e) := by
  unfold fget; rw [h]; simp [he]
theorem fget_long {b : List Int} {n j : Int} (h : getOf b = (n, j, 0)) (hn : 65536 < n) : fget b = (0, [], 0, 5) := by
  unfold fget; rw [h]; simp [hn]
theorem fget_short {b : List Int} {n j : Int} (h : getOf b = (n, j, 0)) (hn : ¬ 65536 < n) (hl : (b.length : Int) < j + 1 + n + 4) : fget b = (0, [], 0, 8) := by
  unfold fget; rw [h]; simp [hn, hl]
theorem fget_bad {b : List Int} {n j : Int} (h : getOf b = (n, j, 0)) (hn : ¬ 65536 < n) (hl : ¬ (b.length : Int) < j + 1 + n + 4) {m : Nat} (hm : (j + 1 + n + 4).toNat = m) {x : List Int} {f : Int} (hb : bareOf (b.take m) = (x, f)) (hf : f ≠ 0) : fget b = (0, [], 0, f) := by
  subst hm
  unfold fget; rw [h]; simp only [hn, hl, hb, if_false]; simp [hf]
theorem fget_good {b : List Int} {n : Int} {j : Nat} (h : getOf b = (n, (j : Int), 0)) (hn : ¬ 65536 < n) (hl : ¬ (b.length : Int) < j + 1 + n + 4) {m : Nat} (hm : ((j : Int) + 1 + n + 4).toNat = m) {x : List Int} (hb : bareOf (b.take m) = (x, 0)) : fget b = (x.getD j 0, x.drop (j + 1), (j : Int) + 1 + n + 4, 0) := by
  subst hm
  unfold fget; rw [h]; simp only [hn, hl, hb, if_false]; simp

theorem own_form {w : World} {base : Nat} {v : Value} {l : List Int} (h : OwnB w base v l) (hl : l ≠ []) :
    ∃ g cap, v = .slice (some ⟨g, 0, none⟩) l.length cap ∧ base ≤ g ∧ g < w.heap.size ∧ l.length ≤ cap ∧ cap ≤ maxLen := by
  have hlt := h.lt
  obtain ⟨_, h2⟩ := h
  rcases h2 with ⟨rfl, h0⟩ | ⟨g, cap, cur, rfl, hg, hh, hn, hm, hs, ht⟩
  · exact absurd (List.length_eq_zero_iff.1 h0) hl
  · exact ⟨g, cap, rfl, hg, (hlt g rfl).2, hn, hm⟩

set_option maxHeartbeats 1000000 in
theorem fget_err_any (b : List Int) (n j e : Int) (v : Value) (w : World) (hv : Octs w v b) (hg : getRet b = .tuple #[.int .u64 n, .int .i64 j, .int .i64 e]) (he : e ≠ 0) :
    Calls Try.prog 50 #[v] w fun e' w' => e' = .returned (.tuple #[.agg #[.int .i64 0, .slice none 0 0], .int .i64 0, .int .i64 e]) ∧ Below w.heap.size w w' := by
  obtain ⟨a, cap, rfl, hcap, hmax⟩ := hv.len
  have HV : Hid (∀ o, Octs (w.alloc o) (.slice a b.length cap) b) := fun o => hv.up (up_alloc w o)
  have he' : (e == 0) = false := by simp [he]
  clear hv hcap hmax
  go_enter Try.func50, Try.ntmps50
  go_wp2_with fail
  refine (get_any b _ _ (HV.out _)).mono ?_
  rintro e1 w1 ⟨rfl, d, rfl⟩
  rw [hg]
  have B0 : Hid (((w.alloc (.cells #[.int .i64 0, .slice none 0 0] 88)).drewN d).heap[w.heap.size]? = some (.cells #[.int .i64 0, .slice none 0 0] 88)) := blk_up (blk_new w _) (up_drewN _ d)
  have U0 : Hid (Below w.heap.size w ((w.alloc (.cells #[.int .i64 0, .slice none 0 0] 88)).drewN d)) := up_trans (up_alloc w _) (up_drewN _ d)
  generalize (w.alloc (.cells #[.int .i64 0, .slice none 0 0] 88)).drewN d = w1 at *
  have q0 := blk_cell B0.out 0 _ rfl
  have q1 := blk_cell B0.out 1 _ rfl
  have z0 := blk_frozen B0.out 0
  have z1 := blk_frozen B0.out 1
  go_wp2
  refine bodyPost_ret (results_rec3 rfl (.inl rfl) _ _ rfl (set2_blkF B0.out _ _)) rfl ?_
  exact ⟨rfl, U0.out.grown (set2_grownF _ _ _ _) U0.out.size (fun k hk => by injection hk with hk; omega)⟩

set_option maxHeartbeats 1000000 in
theorem fget_long_any (b : List Int) (n j : Int) (v : Value) (w : World) (hv : Octs w v b) (hg : getRet b = .tuple #[.int .u64 n, .int .i64 j, .int .i64 0]) (hn : 65536 < n) :
    Calls Try.prog 50 #[v] w fun e' w' => e' = .returned (.tuple #[.agg #[.int .i64 0, .slice none 0 0], .int .i64 0, .int .i64 5]) ∧ Below w.heap.size w w' := by
  obtain ⟨a, cap, rfl, hcap, hmax⟩ := hv.len
  have HV : Hid (∀ o, Octs (w.alloc o) (.slice a b.length cap) b) := fun o => hv.up (up_alloc w o)
  clear hv hcap hmax
  go_enter Try.func50, Try.ntmps50
  go_wp2_with fail
  refine (get_any b _ _ (HV.out _)).mono ?_
  rintro e1 w1 ⟨rfl, d, rfl⟩
  rw [hg]
  have B0 : Hid (((w.alloc (.cells #[.int .i64 0, .slice none 0 0] 88)).drewN d).heap[w.heap.size]? = some (.cells #[.int .i64 0, .slice none 0 0] 88)) := blk_up (blk_new w _) (up_drewN _ d)
  have U0 : Hid (Below w.heap.size w ((w.alloc (.cells #[.int .i64 0, .slice none 0 0] 88)).drewN d)) := up_trans (up_alloc w _) (up_drewN _ d)
  generalize (w.alloc (.cells #[.int .i64 0, .slice none 0 0] 88)).drewN d = w1 at *
  have q0 := blk_cell B0.out 0 _ rfl
  have q1 := blk_cell B0.out 1 _ rfl
  have z0 := blk_frozen B0.out 0
  have z1 := blk_frozen B0.out 1
  go_wp2
  refine bodyPost_ret (results_rec3 rfl (.inl rfl) _ _ rfl (set2_blkF B0.out _ _)) rfl ?_
  exact ⟨rfl, U0.out.grown (set2_grownF _ _ _ _) U0.out.size (fun k hk => by injection hk with hk; omega)⟩

set_option maxHeartbeats 1000000 in
theorem fget_short_any (b : List Int) (n j : Nat) (v : Value) (w : World) (hv : Octs w v b) (hg : getRet b = .tuple #[.int .u64 (n : Int), .int .i64 (j : Int), .int .i64 0]) (hn : n ≤ 65536) (hj : j ≤ 9) (hl : b.length < j + 1 + n + 4) :
    Calls Try.prog 50 #[v] w fun e' w' => e' = .returned (.tuple #[.agg #[.int .i64 0, .slice none 0 0], .int .i64 0, .int .i64 8]) ∧ Below w.heap.size w w' := by
  have g0 : ¬ (65536 : Int) < (n : Int) := by omega
  have g1 : IntKind.i64.wrap (n : Int) = (n : Int) := by simp [IntKind.wrap, IntKind.bits, IntKind.signed]; omega
  have g2 : (b.length : Int) < (j : Int) + 1 + (n : Int) + 4 := by omega
  obtain ⟨a, cap, rfl, hcap, hmax⟩ := hv.len
  have HV : Hid (∀ o, Octs (w.alloc o) (.slice a b.length cap) b) := fun o => hv.up (up_alloc w o)
  clear hv hcap hmax
  go_enter Try.func50, Try.ntmps50
  go_wp2_with fail
  refine (get_any b _ _ (HV.out _)).mono ?_
  rintro e1 w1 ⟨rfl, d, rfl⟩
  rw [hg]
  have B0 : Hid (((w.alloc (.cells #[.int .i64 0, .slice none 0 0] 88)).drewN d).heap[w.heap.size]? = some (.cells #[.int .i64 0, .slice none 0 0] 88)) := blk_up (blk_new w _) (up_drewN _ d)
  have U0 : Hid (Below w.heap.size w ((w.alloc (.cells #[.int .i64 0, .slice none 0 0] 88)).drewN d)) := up_trans (up_alloc w _) (up_drewN _ d)
  generalize (w.alloc (.cells #[.int .i64 0, .slice none 0 0] 88)).drewN d = w1 at *
  have q0 := blk_cell B0.out 0 _ rfl
  have q1 := blk_cell B0.out 1 _ rfl
  have z0 := blk_frozen B0.out 0
  have z1 := blk_frozen B0.out 1
  go_wp2
  refine bodyPost_ret (results_rec3 rfl (.inl rfl) _ _ rfl (set2_blkF B0.out _ _)) rfl ?_
  exact ⟨rfl, U0.out.grown (set2_grownF _ _ _ _) U0.out.size (fun k hk => by injection hk with hk; omega)⟩

set_option maxHeartbeats 1000000 in
theorem fget_bare_any (b : List Int) (n j : Nat) (v : Value) (w : World) (hv : Octs w v b) (hg : getRet b = .tuple #[.int .u64 (n : Int), .int .i64 (j : Int), .int .i64 0]) (hn : n ≤ 65536) (hj : j ≤ 9) (hl : ¬ b.length < j + 1 + n + 4)
    (x : List Int) (f : Int) (hb : bareOf (b.take (j + 1 + n + 4)) = (x, f)) (hf : f ≠ 0) :
    Calls Try.prog 50 #[v] w fun e' w' => e' = .returned (.tuple #[.agg #[.int .i64 0, .slice none 0 0], .int .i64 0, .int .i64 f]) ∧ Below w.heap.size w w' := by
  have g0 : ¬ (65536 : Int) < (n : Int) := by omega
  have g1 : IntKind.i64.wrap (n : Int) = (n : Int) := by simp [IntKind.wrap, IntKind.bits, IntKind.signed]; omega
  have g2 : ¬ (b.length : Int) < (j : Int) + 1 + (n : Int) + 4 := by omega
  have hf' : (f == 0) = false := by simp [hf]
  obtain ⟨bb, off, cap0, rfl, hc0, hm0, _⟩ := hv.at 0 (by omega)
  generalize hcc : cap0 = cap at *
  clear hcc
  have HV : Hid (∀ o, Octs (w.alloc o) (.slice (some ⟨bb, off, none⟩) b.length cap) b) := fun o => hv.up (up_alloc w o)
  have HV1 : Hid (∀ o d, Octs ((w.alloc o).drewN d) (.slice (some ⟨bb, off, none⟩) (j + 1 + n + 4) cap) (b.take (j + 1 + n + 4))) := fun o d => (hv.up (up_trans (up_alloc w o) (up_drewN _ d))).cut rfl _ (by omega)
  unfold maxLen at hm0
  clear hv
  go_enter Try.func50, Try.ntmps50
  go_wp2_with fail
  refine (get_any b _ _ (HV.out _)).mono ?_
  rintro e1 w1 ⟨rfl, d, rfl⟩
  rw [hg]
  have B0 : Hid (((w.alloc (.cells #[.int .i64 0, .slice none 0 0] 88)).drewN d).heap[w.heap.size]? = some (.cells #[.int .i64 0, .slice none 0 0] 88)) := blk_up (blk_new w _) (up_drewN _ d)
  have U0 : Hid (Below w.heap.size w ((w.alloc (.cells #[.int .i64 0, .slice none 0 0] 88)).drewN d)) := up_trans (up_alloc w _) (up_drewN _ d)
  have HV2 : Hid (Octs ((w.alloc (.cells #[.int .i64 0, .slice none 0 0] 88)).drewN d) (.slice (some ⟨bb, off, none⟩) (j + 1 + n + 4) cap) (b.take (j + 1 + n + 4))) := HV1.out _ _
  generalize (w.alloc (.cells #[.int .i64 0, .slice none 0 0] 88)).drewN d = w1 at *
  have q0 := blk_cell B0.out 0 _ rfl
  have q1 := blk_cell B0.out 1 _ rfl
  have z0 := blk_frozen B0.out 0
  have z1 := blk_frozen B0.out 1
  go_wp2_with fail
  refine (bare_any _ _ _ HV2.out (by rw [List.length_take]; omega)).mono ?_
  rintro e2 w2 ⟨v2, rfl, o2, b2⟩
  rw [hb] at o2 ⊢
  obtain ⟨a2, n2, c2, rfl, N2⟩ := own_shape o2
  have B2 : Hid (w2.heap[w.heap.size]? = some (.cells #[.int .i64 0, .slice none 0 0] 88)) := blk_up B0.out b2
  have U2 : Hid (Below w.heap.size w w2) := up_trans U0.out b2
  clear q0 q1 z0 z1 o2 b2
  have q0 := blk_cell B2.out 0 _ rfl
  have q1 := blk_cell B2.out 1 _ rfl
  have z0 := blk_frozen B2.out 0
  have z1 := blk_frozen B2.out 1
  go_wp2
  refine bodyPost_ret (results_rec3 rfl (.inl rfl) _ _ rfl (set2_blkF B2.out _ _)) rfl ?_
  exact ⟨rfl, U2.out.grown (set2_grownF _ _ _ _) U2.out.size (fun k hk => by injection hk with hk; omega)⟩

set_option maxHeartbeats 1000000 in
theorem fget_good_any (b : List Int) (n j : Nat) (v : Value) (w : World) (hv : Octs w v b) (hg : getRet b = .tuple #[.int .u64 (n : Int), .int .i64 (j : Int), .int .i64 0]) (hn : n ≤ 65536) (hj : j ≤ 9) (hl : ¬ b.length < j + 1 + n + 4)
    (x : List Int) (hb : bareOf (b.take (j + 1 + n + 4)) = (x, 0)) (hx : x.length = j + 1 + n) (hoct : ∀ y ∈ x, 0 ≤ y ∧ y ≤ 255) :
    Calls Try.prog 50 #[v] w fun e' w' => ∃ vd, e' = .returned (.tuple #[.agg #[.int .i64 (x.getD j 0), vd], .int .i64 ((j : Int) + 1 + (n : Int) + 4), .int .i64 0]) ∧ NewB w' w.heap.size vd (x.drop (j + 1)) ∧ Below w.heap.size w w' := by
  have g0 : ¬ (65536 : Int) < (n : Int) := by omega
  have g1 : IntKind.i64.wrap (n : Int) = (n : Int) := by simp [IntKind.wrap, IntKind.bits, IntKind.signed]; omega
  have g2 : ¬ (b.length : Int) < (j : Int) + 1 + (n : Int) + 4 := by omega
  obtain ⟨bb, off, cap0, rfl, hc0, hm0, _⟩ := hv.at 0 (by omega)
  generalize hcc : cap0 = cap at *
  clear hcc
  have HV : Hid (∀ o, Octs (w.alloc o) (.slice (some ⟨bb, off, none⟩) b.length cap) b) := fun o => hv.up (up_alloc w o)
  have HV1 : Hid (∀ o d, Octs ((w.alloc o).drewN d) (.slice (some ⟨bb, off, none⟩) (j + 1 + n + 4) cap) (b.take (j + 1 + n + 4))) := fun o d => (hv.up (up_trans (up_alloc w o) (up_drewN _ d))).cut rfl _ (by omega)
  unfold maxLen at hm0
  clear hv
  go_enter Try.func50, Try.ntmps50
  go_wp2_with fail
  refine (get_any b _ _ (HV.out _)).mono ?_
  rintro e1 w1 ⟨rfl, d, rfl⟩
  rw [hg]
  have B0 : Hid (((w.alloc (.cells #[.int .i64 0, .slice none 0 0] 88)).drewN d).heap[w.heap.size]? = some (.cells #[.int .i64 0, .slice none 0 0] 88)) := blk_up (blk_new w _) (up_drewN _ d)
  have U0 : Hid (Below w.heap.size w ((w.alloc (.cells #[.int .i64 0, .slice none 0 0] 88)).drewN d)) := up_trans (up_alloc w _) (up_drewN _ d)
  have HV2 : Hid (Octs ((w.alloc (.cells #[.int .i64 0, .slice none 0 0] 88)).drewN d) (.slice (some ⟨bb, off, none⟩) (j + 1 + n + 4) cap) (b.take (j + 1 + n + 4))) := HV1.out _ _
  generalize (w.alloc (.cells #[.int .i64 0, .slice none 0 0] 88)).drewN d = w1 at *
  have q0 := blk_cell B0.out 0 _ rfl
  have q1 := blk_cell B0.out 1 _ rfl
  have z0 := blk_frozen B0.out 0
  have z1 := blk_frozen B0.out 1
  go_wp2_with fail
  refine (bare_any _ _ _ HV2.out (by rw [List.length_take]; omega)).mono ?_
  rintro e2 w2 ⟨v2, rfl, o2, b2⟩
  rw [hb] at o2 ⊢
  replace o2 : OwnB w2 w1.heap.size v2 x := o2
  have hne : x ≠ [] := by intro e; rw [e] at hx; simp at hx; omega
  obtain ⟨g, c2, rfl, hg1, hg2, hc2, hm2⟩ := own_form o2 hne
  have hs1 : w.heap.size < w1.heap.size := blk_lt B0.out
  have hO := Octs.own o2 hoct
  obtain ⟨g', off', cap', e', _, _, hcell⟩ := hO.at j (by omega)
  simp only [Value.slice.injEq, Option.some.injEq, Addr.mk.injEq] at e'
  obtain ⟨⟨rfl, rfl, _⟩, _, rfl⟩ := e'
  rw [Nat.zero_add] at hcell
  have HD : Hid (NewB w2 w.heap.size (.slice (some ⟨g, j + 1, none⟩) n (c2 - (j + 1))) (x.drop (j + 1))) := by
    have h := hO.back rfl (j + 1) (by omega) hc2
    rw [Nat.zero_add, show x.length - (j + 1) = n by omega] at h
    exact ⟨h, fun k hk => by simp [Value.ownBlock] at hk; omega⟩
  have HD0 : Hid (n = 0 → NewB w2 w.heap.size (.slice (some ⟨g, 0, none⟩) n 0) (x.drop (j + 1))) := by
    rintro rfl
    have e : x.drop (j + 1) = [] := List.drop_eq_nil_iff.2 (by omega)
    rw [e]
    exact ⟨⟨by simp, .inl ⟨rfl, _, _, rfl, fun h => by cases h⟩⟩, fun k hk => by simp [Value.ownBlock] at hk; omega⟩
  have HNE : Hid (g ≠ w.heap.size) := by unfold Hid; omega
  have B2 : Hid (w2.heap[w.heap.size]? = some (.cells #[.int .i64 0, .slice none 0 0] 88)) := blk_up B0.out b2
  have U2 : Hid (Below w.heap.size w w2) := up_trans U0.out b2
  have hk := hO.oct j (by omega)
  have g5 : x.length - (j + 1) = n := by omega
  have hjx : j < x.length := by omega
  have hjx' : j + 1 ≤ x.length := by omega
  clear q0 q1 z0 z1 o2 b2 hO
  have q0 := blk_cell B2.out 0 _ rfl
  have q1 := blk_cell B2.out 1 _ rfl
  have z0 := blk_frozen B2.out 0
  have z1 := blk_frozen B2.out 1
  obtain ⟨kd, hkd⟩ : ∃ kd, x.getD j 0 = kd := ⟨_, rfl⟩
  rw [hkd] at hcell hk
  have HK : Hid (x[j]?.getD 0 = kd) := by unfold Hid; rw [← hkd]; rfl
  clear hkd
  go_wp2_with fail
  go_region
  all_goals go_wp2_with fail
  · refine bodyPost_ret (results_rec3 rfl (.inl rfl) _ _ rfl (blk_up (set2_blkF B2.out _ _) (up_dr (Below.refl _ _)))) rfl ?_
    rw [HK.out]
    refine ⟨_, rfl, (HD0.out (by omega)).far (grown_trans (set2_grownF _ _ _ _) (grown_up (up_dr (Below.refl _ _)) _)) (fun k hk e => ?_), U2.out.grown (grown_trans (set2_grownF _ _ _ _) (grown_up (up_dr (Below.refl _ _)) _)) U2.out.size (fun k hk => ?_)⟩
    · simp [Value.ownBlock] at hk e; exact HNE.out (by omega)
    · simp at hk; omega
  · refine bodyPost_ret (results_rec3 rfl (.inl rfl) _ _ rfl (blk_up (set2_blkF B2.out _ _) (up_dr (Below.refl _ _)))) rfl ?_
    rw [HK.out]
    refine ⟨_, rfl, HD.out.far (grown_trans (set2_grownF _ _ _ _) (grown_up (up_dr (Below.refl _ _)) _)) (fun k hk e => ?_), U2.out.grown (grown_trans (set2_grownF _ _ _ _) (grown_up (up_dr (Below.refl _ _)) _)) U2.out.size (fun k hk => ?_)⟩
    · simp [Value.ownBlock] at hk e; exact HNE.out (by omega)
    · simp at hk; omega

theorem bareOf_good {l x : List Int} (h : bareOf l = (x, 0)) : x.length + 4 = l.length ∧ x = l.take x.length := by
  unfold bareOf at h
  split at h
  · simp at h
  · split at h
    · simp at h
      subst h
      rw [List.length_take]
      refine ⟨by omega, ?_⟩
      rw [Nat.min_eq_left (by omega)]
    · simp at h

theorem fget_any (b : List Int) (v : Value) (w : World) (hv : Octs w v b) :
    Calls Try.prog 50 #[v] w fun e w' => ∃ vd, e = .returned (.tuple #[.agg #[.int .i64 (fget b).1, vd], .int .i64 (fget b).2.2.1, .int .i64 (fget b).2.2.2]) ∧ NewB w' w.heap.size vd (fget b).2.1 ∧ Below w.heap.size w w' := by
  have bad : ∀ e, fget b = (0, [], 0, e) → (Calls Try.prog 50 #[v] w fun e' w' => e' = .returned (.tuple #[.agg #[.int .i64 0, .slice none 0 0], .int .i64 0, .int .i64 e]) ∧ Below w.heap.size w w') →
      Calls Try.prog 50 #[v] w fun e w' => ∃ vd, e = .returned (.tuple #[.agg #[.int .i64 (fget b).1, vd], .int .i64 (fget b).2.2.1, .int .i64 (fget b).2.2.2]) ∧ NewB w' w.heap.size vd (fget b).2.1 ∧ Below w.heap.size w w' := by
    intro e he hc
    refine hc.mono ?_
    rintro e' w' ⟨rfl, hb⟩
    rw [he]
    exact ⟨_, rfl, NewB.nil _ _, hb⟩
  rcases get_says b hv.1 with hg | hg | ⟨n, j, hg, n0, n1, j1, jl, ho, j9⟩
  · exact bad 8 (fget_err (getRet_injF hg) (by decide)) (fget_err_any b 0 0 8 v w hv hg (by decide))
  · exact bad 4 (fget_err (getRet_injF hg) (by decide)) (fget_err_any b 0 0 4 v w hv hg (by decide))
  · have hG := getRet_injF hg
    by_cases h1 : 65536 < n
    · exact bad 5 (fget_long hG h1) (fget_long_any b n j v w hv hg h1)
    obtain ⟨m, rfl⟩ : ∃ m : Nat, n = (m : Int) := ⟨n.toNat, by omega⟩
    by_cases h2 : b.length < j + 1 + m + 4
    · exact bad 8 (fget_short hG h1 (by omega)) (fget_short_any b m j v w hv hg (by omega) j9 h2)
    have hm : ((j : Int) + 1 + (m : Int) + 4).toNat = j + 1 + m + 4 := by omega
    obtain ⟨x, f, hb⟩ : ∃ x f, bareOf (b.take (j + 1 + m + 4)) = (x, f) := ⟨_, _, rfl⟩
    by_cases hf : f = 0
    · subst hf
      obtain ⟨h3, h4⟩ := bareOf_good hb
      rw [List.length_take] at h3
      rw [fget_good hG h1 (by omega) hm hb]
      refine fget_good_any b m j v w hv hg (by omega) j9 h2 x hb (by omega) ?_
      intro y hy
      rw [h4] at hy
      exact hv.1 y (List.mem_of_mem_take (List.mem_of_mem_take hy))
    · exact bad f (fget_bad hG h1 (by omega) hm hb hf) (fget_bare_any b m j v w hv hg (by omega) j9 h2 x f hb hf)
end Go.Proofs.Ytekoniaobmapdab
