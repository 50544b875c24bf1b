/- The walk of the law FilesReads. -/
import Derived.Test.YtoceddpjkodfkaaS1
namespace Go.Proofs.Ytoceddpjkodfkaa
open Go.RowKit
set_option linter.unusedVariables false
set_option linter.unusedSimpArgs false

/-- Slices of octets, and Booleans, as they are read. -/
def BytesW (w : World) (v : Value) (l : List (List Int)) : Prop := ∃ m : List (Value × List Int), m.map (·.2) = l ∧ Rws 1 w v (m.map fun y => [y.1]) ∧ ∀ y ∈ m, Octs w y.1 y.2 ∧ y.2.length ≤ 140737488355328
def BoolsW (w : World) (v : Value) (l : List Bool) : Prop := Rws 1 w v (l.map fun b => [Value.bool b])
theorem BytesW.up {w w' : World} {v : Value} {l : List (List Int)} (h : BytesW w v l) (hb : Below w.heap.size w w') : BytesW w' v l := by
  obtain ⟨m, h1, h2, h3⟩ := h
  exact ⟨m, h1, h2.up hb, fun y hy => ⟨(h3 y hy).1.up hb, (h3 y hy).2⟩⟩
theorem BoolsW.up {w w' : World} {v : Value} {l : List Bool} (h : BoolsW w v l) (hb : Below w.heap.size w w') : BoolsW w' v l := Rws.up h hb
theorem BytesW.len {w : World} {v : Value} {l : List (List Int)} (h : BytesW w v l) : ∃ a cap, v = .slice a l.length cap ∧ l.length ≤ cap ∧ cap ≤ maxLen := by
  obtain ⟨m, rfl, h2, _⟩ := h
  obtain ⟨a, cap, e, h1, h2⟩ := h2.len
  rw [List.length_map] at e h1
  rw [List.length_map]
  exact ⟨a, cap, e, h1, h2⟩
theorem BoolsW.len {w : World} {v : Value} {l : List Bool} (h : BoolsW w v l) : ∃ a cap, v = .slice a l.length cap ∧ l.length ≤ cap ∧ cap ≤ maxLen := by
  obtain ⟨a, cap, e, h1, h2⟩ := Rws.len h
  rw [List.length_map] at e h1
  exact ⟨a, cap, e, h1, h2⟩
theorem BytesW.at {w : World} {v : Value} {l : List (List Int)} (h : BytesW w v l) (k : Nat) (hk : k < l.length) : ∃ b off cap ad cd, v = .slice (some ⟨b, off, none⟩) l.length cap ∧ w.cell? ⟨b, off + k, none⟩ = some (.slice ad (l.getD k []).length cd) ∧ Octs w (.slice ad (l.getD k []).length cd) (l.getD k []) ∧ (l.getD k []).length ≤ 140737488355328 := by
  obtain ⟨m, rfl, h2, h3⟩ := h
  rw [List.length_map] at hk ⊢
  obtain ⟨b, off, cap, e, _, _, hc⟩ := h2.at k (by rw [List.length_map]; exact hk)
  rw [List.length_map] at e
  have hr : (m.map fun y => [y.1]).getD k [] = [m[k].1] := by simp [List.getD, hk]
  have hr2 : (m.map (·.2)).getD k [] = m[k].2 := by simp [List.getD, hk]
  rw [hr] at hc
  rw [hr2]
  have h4 := h3 m[k] (List.getElem_mem hk)
  obtain ⟨ad, cd, evd, _⟩ := h4.1.slice
  have c0 := hc 0 _ rfl
  rw [Nat.mul_one, Nat.add_zero] at c0
  rw [evd] at c0 h4
  exact ⟨b, off, cap, ad, cd, e, c0, h4.1, h4.2⟩
theorem BoolsW.at {w : World} {v : Value} {l : List Bool} (h : BoolsW w v l) (k : Nat) (hk : k < l.length) : ∃ b off cap, v = .slice (some ⟨b, off, none⟩) l.length cap ∧ w.cell? ⟨b, off + k, none⟩ = some (.bool (l.getD k false)) := by
  obtain ⟨b, off, cap, e, _, _, hc⟩ := Rws.at h k (by rw [List.length_map]; exact hk)
  rw [List.length_map] at e
  have hr : (l.map fun b => [Value.bool b]).getD k [] = [.bool (l.getD k false)] := by simp [List.getD, hk]
  rw [hr] at hc
  have c0 := hc 0 _ rfl
  rw [Nat.mul_one, Nat.add_zero] at c0
  exact ⟨b, off, cap, e, c0⟩

theorem same_self (l : List Int) (v u : Value) (w : World) (hv : Octs w v l) (hu : Octs w u l) : Calls Try.prog 21 #[v, u] w fun e w' => e = .returned (.bool true) ∧ w' = w := by
  refine (same_any l l v u w hv hu).mono ?_
  rintro e w' ⟨rfl, rfl⟩
  exact ⟨by simp, rfl⟩

theorem acw97 {w : World} {x : Int} {ad : Option Addr} {n cd : Nat} {d : List Int} (hx : In64 x) (h : Octs w (.slice ad n cd) d) (hd : d.length ≤ 140737488355328) : AcW w (.agg #[.int .i64 x, .string ⟨#[97]⟩, .string ⟨#[]⟩, .slice ad n cd]) ⟨x, [97], [], d⟩ := by
  have s1 : strOfNums [97] = ⟨#[97]⟩ := by decide
  have s0 : strOfNums [] = ⟨#[]⟩ := by decide
  have k1 : OctL [97] := by unfold OctL; decide
  have k0 : OctL [] := by unfold OctL; decide
  refine ⟨_, by simp only [s1, s0], h, hx, k1, by simp, k0, by simp, hd⟩

/-- A state is not felt where other, elder memory is written. -/
theorem OwnS.keep {w w' : World} {base B : Nat} {s : St} {r : Option Nat} (h : OwnS w base B s) (hg : w.grownBy w' r) (hr : ∀ k, r = some k → k < base ∧ k ≠ B) : OwnS w' base B s := by
  obtain ⟨h0, vf, vn, vs, m, hb, hm, of, on, os, hap, hi1, hi2⟩ := h
  have ne : ∀ {e sz : Nat} {v : Value} {n : Nat} {xs : List Value}, w.ownsRow base e sz v n xs → v.ownBlock = none ∨ v.ownBlock ≠ r := by
    intro e sz v n xs ho
    cases hv : v.ownBlock with
    | none => exact .inl rfl
    | some g =>
      refine .inr fun q => ?_
      have := (ho.lt g hv).1
      have := (hr g q.symm).1
      omega
  refine ⟨h0, vf, vn, vs, m, blk_grown hb hg (fun q => (hr B q.symm).2 rfl), hm, of.far hg (ne of.1.2) (fun y hy => ne (of.2.1 y hy).1), on.far hg (ne on.2.2), os.far hg (ne os.2.2), hap, hi1, hi2⟩

theorem reads_next {l : List (List Int)} {w W : World} {B b1 : Nat} {want : List Int} {syn : Int} {k : Nat} {ix v' : Value} {x0 x1 x2 x3 x4 y0 y1 y2 y3 y4 : Value} (hk : k < l.length) (hx : ix = .int .i64 ((k + 1 : Nat) : Int)) (hs : 0 ≤ syn ∧ syn ≤ want.length) (hl : want.length ≤ 1048576)
    (hb : OwnB W w.heap.size v' want) (ho : OctL want) (hv : OwnV W b1 (.agg #[y0, y1, y2, y3, y4]) (stR want syn)) (h1 : w.heap.size ≤ b1) (hB : W.heap[B]? = some (.cells #[x0, x1, x2, x3, x4] 33)) (hwB : w.heap.size ≤ B) (hu : Below w.heap.size w W) :
    (∃ (k : Nat) (want : List Int) (syn : Int) (av : Option Addr) (cv : Nat), k ≤ l.length ∧ ix = .int .i64 k ∧ v' = .slice av want.length cv ∧ Hid (0 ≤ syn ∧ syn ≤ want.length) ∧ want.length ≤ 1048576 ∧ Hid (OwnB (set5 W B y0 y1 y2 y3 y4) w.heap.size (.slice av want.length cv) want ∧ OctL want) ∧ Hid (OwnS (set5 W B y0 y1 y2 y3 y4) w.heap.size B (stR want syn)) ∧ Hid (Below w.heap.size w (set5 W B y0 y1 y2 y3 y4))) ∧ l.length - (intOf ix).toNat < l.length - (intOf (Value.int .i64 (k : Int))).toNat := by
  obtain ⟨av, cv, e, _⟩ := (Octs.own hb ho).slice
  subst e
  refine ⟨⟨k + 1, want, syn, av, cv, by omega, hx, rfl, hs, hl, ⟨hb.far (set5_grown _ _ _ _ _ _ _) (own_blk_ne hb hB (by decide)), ho⟩, ((hv.mono h1).put hB).1, hu.grown (set5_grown _ _ _ _ _ _ _) hu.size (fun j hj => by injection hj with hj; rw [← hj]; exact hwB)⟩, ?_⟩
  subst hx
  simp only [intOf]
  omega

set_option maxHeartbeats 8000000 in
set_option maxRecDepth 4000 in
theorem reads_walk (l : List (List Int)) (sy : List Bool) (v0 v1 : Value) (w : World) (h0 : BytesW w v0 l) (h1 : BoolsW w v1 sy) :
    Calls Try.prog 5 #[v0, v1] w fun e w' => e = .returned (.bool true) ∧ Below w.heap.size w w' := by
  obtain ⟨ap, cp, ev0, hc0, hm0⟩ := h0.len
  obtain ⟨aq, cq, ev1, hc1, hm1⟩ := h1.len
  subst ev0
  subst ev1
  have HA : Hid (BytesW w (.slice ap l.length cp) l ∧ BoolsW w (.slice aq sy.length cq) sy) := ⟨h0, h1⟩
  have S1 : Hid (strOfNums [97] = ⟨#[97]⟩) := by unfold Hid; decide
  have hl63 : l.length ≤ 9223372036854775807 := by unfold maxLen at hm0; omega
  have hs63 : sy.length ≤ 9223372036854775807 := by unfold maxLen at hm1; omega
  clear h0 h1 hc0 hc1 hm0 hm1
  go_enter Try.func5, Try.ntmps5
  go_wp2_with fail
  refine (alive_any w).mono ?_
  rintro e w1 ⟨rfl, u1⟩
  have up1 : Hid (Below w.heap.size w w1) := u1
  clear u1
  go_wp2_with fail
  refine (new_any 1048576 (by unfold In64; decide) w1).mono ?_
  rintro e w2 ⟨v2, rfl, ov2, u2⟩
  rw [stR_new] at ov2 ⊢
  obtain ⟨a1, n1, c1, a2, n2, c2, a3, n3, c3, e9⟩ := ov2.shape
  have e9' : v2 = .agg #[.int .i64 1048576, .slice a1 n1 c1, .slice a2 n2 c2, .slice a3 n3 c3, .int .i64 1] := e9
  clear e9
  subst e9'
  obtain ⟨W2, hW2⟩ : ∃ W2, W2 = w2.alloc (.cells #[.int .i64 1048576, .slice a1 n1 c1, .slice a2 n2 c2, .slice a3 n3 c3, .int .i64 1] 33) := ⟨_, rfl⟩
  obtain ⟨B, hB⟩ : ∃ B, B = w2.heap.size := ⟨_, rfl⟩
  have HW2 : Hid (w2.alloc (.cells #[.int .i64 1048576, .slice a1 n1 c1, .slice a2 n2 c2, .slice a3 n3 c3, .int .i64 1] 33) = W2) := hW2.symm
  have hb2 : W2.heap[B]? = some (.cells #[.int .i64 1048576, .slice a1 n1 c1, .slice a2 n2 c2, .slice a3 n3 c3, .int .i64 1] 33) := by rw [hW2, hB]; exact blk_new w2 _
  have HV2 : Hid (StW W2 (.agg #[.int .i64 1048576, .slice a1 n1 c1, .slice a2 n2 c2, .slice a3 n3 c3, .int .i64 1]) ⟨1048576, [], [], [], 1⟩ ∧ Below w.heap.size w W2 ∧ w.heap.size ≤ B) := by
    have uu := up_trans up1.out u2
    rw [hW2, hB]
    exact ⟨(StW.own ov2).up (up_al (Below.refl _ _) _), up_al uu _, uu.size⟩
  have HB2 : Hid (W2.heap[B]? = some (.cells #[.int .i64 1048576, .slice a1 n1 c1, .slice a2 n2 c2, .slice a3 n3 c3, .int .i64 1] 33)) := hb2
  clear hW2 ov2 u2 up1
  go_upto_region 4 with fail
  rw [HW2.out, ← hB]
  clear HW2 hB
  have q0 := blk_cell hb2 0 _ rfl
  have q1 := blk_cell hb2 1 _ rfl
  have q2 := blk_cell hb2 2 _ rfl
  have q3 := blk_cell hb2 3 _ rfl
  have q4 := blk_cell hb2 4 _ rfl
  clear hb2
  go_wp2_with fail
  refine (do_any ⟨1048576, [], [], [], 1⟩ ⟨1, [97], [], []⟩ _ _ W2 HV2.out.1 (acw97 (by unfold In64; decide) ⟨(fun x hx => by cases hx), .inl ⟨rfl, none, 0, rfl, fun _ => rfl⟩⟩ (by simp)) (by decide)).mono ?_
  rintro e w3 ⟨v3, rfl, ov3, u3⟩
  rw [stR_first] at ov3 ⊢
  obtain ⟨a4, n4, c4, a5, n5, c5, a6, n6, c6, e9⟩ := ov3.shape
  have e9' : v3 = .agg #[.int .i64 1048576, .slice a4 n4 c4, .slice a5 n5 c5, .slice a6 n6 c6, .int .i64 2] := e9
  clear e9
  subst e9'
  have hb3 := blk_up HB2.out u3
  have hu3 := up_trans HV2.out.2.1 u3
  clear q0 q1 q2 q3 q4
  have q0 := blk_cell hb3 0 _ rfl
  have q1 := blk_cell hb3 1 _ rfl
  have q2 := blk_cell hb3 2 _ rfl
  have q3 := blk_cell hb3 3 _ rfl
  have q4 := blk_cell hb3 4 _ rfl
  have f0 := blk_frozen hb3 0
  have f1 := blk_frozen hb3 1
  have f2 := blk_frozen hb3 2
  have f3 := blk_frozen hb3 3
  have f4 := blk_frozen hb3 4
  obtain ⟨W3, hW3⟩ : ∃ W3, W3 = set5 w3 B (.int .i64 1048576) (.slice a4 n4 c4) (.slice a5 n5 c5) (.slice a6 n6 c6) (.int .i64 2) := ⟨_, rfl⟩
  have HW3 : Hid (((((w3.setCell ⟨B, 0, none⟩ (.int .i64 1048576)).setCell ⟨B, 1, none⟩ (.slice a4 n4 c4)).setCell ⟨B, 2, none⟩ (.slice a5 n5 c5)).setCell ⟨B, 3, none⟩ (.slice a6 n6 c6)).setCell ⟨B, 4, none⟩ (.int .i64 2) = W3) := by unfold Hid; rw [hW3]; rfl
  have HO3 : Hid (OwnS W3 w.heap.size B (stR [] 0) ∧ Below w.heap.size w W3) := by
    rw [hW3]
    exact ⟨((ov3.mono HV2.out.2.1.size).put hb3).1, hu3.grown (set5_grown _ _ _ _ _ _ _) hu3.size (fun j hj => by injection hj with hj; rw [← hj]; exact HV2.out.2.2)⟩
  have HBw : Hid (w.heap.size ≤ B) := HV2.out.2.2
  clear hW3 hu3 hb3 ov3 u3
  go_upto_region 5 with fail
  rw [HW3.out]
  clear HW3 q0 q1 q2 q3 q4 f0 f1 f2 f3 f4 HB2 HV2
  go_wp2_with fail
  go_loopw [8, 9] (fun vb ix wr => ∃ (k : Nat) (want : List Int) (syn : Int) (av : Option Addr) (cv : Nat), k ≤ l.length ∧ ix = .int .i64 k ∧ vb = .slice av want.length cv ∧ Hid (0 ≤ syn ∧ syn ≤ want.length) ∧ want.length ≤ 1048576 ∧ Hid (OwnB wr w.heap.size (.slice av want.length cv) want ∧ OctL want) ∧ Hid (OwnS wr w.heap.size B (stR want syn)) ∧ Hid (Below w.heap.size w wr)) (fun _ ix _ => l.length - (intOf ix).toNat)
  case atStart => exact ⟨0, [], 0, none, 0, Nat.zero_le _, rfl, rfl, ⟨by decide, by decide⟩, by simp, ⟨OwnB.nil _ _, fun x hx => by cases hx⟩, HO3.out.1, HO3.out.2⟩
  case round =>
    clear HO3
    obtain ⟨k, want, syn, av, cv, hk, rfl, rfl, HSy, hwl, HOB, HO, HU⟩ := hrel
    obtain ⟨a1, n1, c1, a2, n2, c2, a3, n3, c3, hbx, ovx⟩ := HO.out.shape
    have hb : wr.heap[B]? = some (.cells #[.int .i64 1048576, .slice a1 n1 c1, .slice a2 n2 c2, .slice a3 n3 c3, .int .i64 2] 33) := hbx
    have HB : Hid (wr.heap[B]? = some (.cells #[.int .i64 1048576, .slice a1 n1 c1, .slice a2 n2 c2, .slice a3 n3 c3, .int .i64 2] 33)) := hb
    have HV : Hid (StW wr (.agg #[.int .i64 1048576, .slice a1 n1 c1, .slice a2 n2 c2, .slice a3 n3 c3, .int .i64 2]) (stR want syn)) := StW.own ovx
    have q0 := blk_cell hb 0 _ rfl
    have q1 := blk_cell hb 1 _ rfl
    have q2 := blk_cell hb 2 _ rfl
    have q3 := blk_cell hb 3 _ rfl
    have q4 := blk_cell hb 4 _ rfl
    clear hbx hb ovx
    by_cases hkl : k < l.length
    · have hkl' : (k : Int) < (l.length : Int) := by omega
      by_cases hk30 : k < 30
      · have hk30' : (k : Int) < 30 := by omega
        obtain ⟨bp, op, cp', ad, cd, ep, pc, pd, pl⟩ := (HA.out.1.up HU.out).at k hkl
        simp at ep
        obtain ⟨rfl, rfl⟩ := ep
        obtain ⟨d, hd⟩ : ∃ d, d = l.getD k [] := ⟨_, rfl⟩
        rw [← hd] at pc pd pl
        have HD : Hid (Octs wr (.slice ad d.length cd) d ∧ d.length ≤ 140737488355328) := ⟨pd, pl⟩
        have HK : Hid (k < l.length ∧ k < 30) := ⟨hkl, hk30⟩
        obtain ⟨A, hA⟩ : ∃ A, A = doP (stR want syn) ⟨2, [97], [], d⟩ := ⟨_, rfl⟩
        have HAe : Hid (A = doP (stR want syn) ⟨2, [97], [], d⟩) := hA
        have HC0 : Hid (∀ X, Below wr.heap.size wr X → Calls Try.prog 11 #[.agg #[.int .i64 1048576, .slice a1 n1 c1, .slice a2 n2 c2, .slice a3 n3 c3, .int .i64 2], .agg #[.int .i64 2, .string ⟨#[97]⟩, .string ⟨#[]⟩, .slice ad d.length cd]] X fun e w' => ∃ a4 n4 c4 a5 n5 c5 a6 n6 c6, e = .returned (.tuple #[.agg #[.int .i64 A.1.cap, .slice a4 n4 c4, .slice a5 n5 c5, .slice a6 n6 c6, .int .i64 A.1.next], .int .i64 A.2]) ∧ Hid (OwnV w' wr.heap.size (.agg #[.int .i64 A.1.cap, .slice a4 n4 c4, .slice a5 n5 c5, .slice a6 n6 c6, .int .i64 A.1.next]) A.1 ∧ Below X.heap.size X w')) := by
          intro X ud
          refine (do_any (stR want syn) ⟨2, [97], [], d⟩ _ _ X (HV.out.up ud) (acw97 (by unfold In64; decide) (HD.out.1.up ud) HD.out.2) (by simp [stR])).mono ?_
          rintro e w' ⟨v', rfl, ov, hu⟩
          rw [← HAe.out] at ov ⊢
          obtain ⟨a4, n4, c4, a5, n5, c5, a6, n6, c6, ev⟩ := ov.shape
          subst ev
          exact ⟨a4, n4, c4, a5, n5, c5, a6, n6, c6, rfl, ov.mono ud.size, hu⟩
        have HC : Hid (Calls Try.prog 11 #[.agg #[.int .i64 1048576, .slice a1 n1 c1, .slice a2 n2 c2, .slice a3 n3 c3, .int .i64 2], .agg #[.int .i64 2, .string ⟨#[97]⟩, .string ⟨#[]⟩, .slice ad d.length cd]] wr.drew fun e w' => ∃ a4 n4 c4 a5 n5 c5 a6 n6 c6, e = .returned (.tuple #[.agg #[.int .i64 A.1.cap, .slice a4 n4 c4, .slice a5 n5 c5, .slice a6 n6 c6, .int .i64 A.1.next], .int .i64 A.2]) ∧ Hid (OwnV w' wr.heap.size (.agg #[.int .i64 A.1.cap, .slice a4 n4 c4, .slice a5 n5 c5, .slice a6 n6 c6, .int .i64 A.1.next]) A.1 ∧ Below wr.heap.size wr w')) := by
          have ud : Below wr.heap.size wr wr.drew := up_dr (Below.refl _ _)
          refine (HC0.out _ ud).mono ?_
          rintro e w' ⟨a4, n4, c4, a5, n5, c5, a6, n6, c6, rfl, h⟩
          exact ⟨a4, n4, c4, a5, n5, c5, a6, n6, c6, rfl, h.out.1, up_trans ud h.out.2⟩
        have HC2 : Hid (Calls Try.prog 11 #[.agg #[.int .i64 1048576, .slice a1 n1 c1, .slice a2 n2 c2, .slice a3 n3 c3, .int .i64 2], .agg #[.int .i64 2, .string ⟨#[97]⟩, .string ⟨#[]⟩, .slice ad d.length cd]] (wr.alloc (.cells #[.int .i64 0, .slice none 0 0, .slice none 0 0, .slice none 0 0, .int .i64 0] 33)).drew fun e w' => ∃ a4 n4 c4 a5 n5 c5 a6 n6 c6, e = .returned (.tuple #[.agg #[.int .i64 A.1.cap, .slice a4 n4 c4, .slice a5 n5 c5, .slice a6 n6 c6, .int .i64 A.1.next], .int .i64 A.2]) ∧ w'.cell? ⟨wr.heap.size, 0, none⟩ = some (.int .i64 0) ∧ w'.cell? ⟨wr.heap.size, 1, none⟩ = some (.slice none 0 0) ∧ w'.cell? ⟨wr.heap.size, 2, none⟩ = some (.slice none 0 0) ∧ w'.cell? ⟨wr.heap.size, 3, none⟩ = some (.slice none 0 0) ∧ w'.cell? ⟨wr.heap.size, 4, none⟩ = some (.int .i64 0) ∧
            w'.frozen? ⟨wr.heap.size, 0, none⟩ = false ∧ w'.frozen? ⟨wr.heap.size, 1, none⟩ = false ∧ w'.frozen? ⟨wr.heap.size, 2, none⟩ = false ∧ w'.frozen? ⟨wr.heap.size, 3, none⟩ = false ∧ w'.frozen? ⟨wr.heap.size, 4, none⟩ = false ∧
            Hid (OwnS (set5 w' wr.heap.size (.int .i64 A.1.cap) (.slice a4 n4 c4) (.slice a5 n5 c5) (.slice a6 n6 c6) (.int .i64 A.1.next)) wr.heap.size wr.heap.size A.1 ∧ Below wr.heap.size wr (set5 w' wr.heap.size (.int .i64 A.1.cap) (.slice a4 n4 c4) (.slice a5 n5 c5) (.slice a6 n6 c6) (.int .i64 A.1.next)))) := by
          have ud : Below wr.heap.size wr (wr.alloc (.cells #[.int .i64 0, .slice none 0 0, .slice none 0 0, .slice none 0 0, .int .i64 0] 33)).drew := up_dr (up_al (Below.refl _ _) _)
          refine (HC0.out _ ud).mono ?_
          rintro e w' ⟨a4, n4, c4, a5, n5, c5, a6, n6, c6, rfl, h⟩
          have hb : w'.heap[wr.heap.size]? = some (.cells #[.int .i64 0, .slice none 0 0, .slice none 0 0, .slice none 0 0, .int .i64 0] 33) := blk_up (blk_up (blk_new wr (.cells #[.int .i64 0, .slice none 0 0, .slice none 0 0, .slice none 0 0, .int .i64 0] 33)) (up_dr (Below.refl _ _))) h.out.2
          have uu := up_trans ud h.out.2
          exact ⟨a4, n4, c4, a5, n5, c5, a6, n6, c6, rfl, blk_cell hb 0 _ rfl, blk_cell hb 1 _ rfl, blk_cell hb 2 _ rfl, blk_cell hb 3 _ rfl, blk_cell hb 4 _ rfl, blk_frozen hb 0, blk_frozen hb 1, blk_frozen hb 2, blk_frozen hb 3, blk_frozen hb 4, (h.out.1.put hb).1, uu.grown (set5_grown _ _ _ _ _ _ _) uu.size (fun j hj => by injection hj with hj; rw [← hj]; exact Nat.le_refl _)⟩
        clear HC0
        have y0 := fun o => Lib.cell?_alloc_marked o q0
        have y1 := fun o => Lib.cell?_alloc_marked o q1
        have y2 := fun o => Lib.cell?_alloc_marked o q2
        have y3 := fun o => Lib.cell?_alloc_marked o q3
        have y4 := fun o => Lib.cell?_alloc_marked o q4
        have yp := fun o => Lib.cell?_alloc_marked o pc
        clear hd pd pl hA hkl hk30
        go_upto_region 9 with fail
        go_cut [10, 11] from 28 to 47 (fun s10 s11 wx => ∃ C, s10 = .pointer (some ⟨C, 0, none⟩) ∧ s11 = .int .i64 A.2 ∧ Hid (OwnS wx wr.heap.size C A.1 ∧ Below wr.heap.size wr wx ∧ wr.heap.size ≤ C))
        case first =>
          go_region_with (first | (go_at_call 11; refine HC.out.mono ?_; rintro e w' ⟨a4, n4, c4, a5, n5, c5, a6, n6, c6, rfl, hs⟩) | (go_at_call 11; refine HC2.out.mono ?_; rintro e w' ⟨a4, n4, c4, a5, n5, c5, a6, n6, c6, rfl, z0, z1, z2, z3, z4, f0, f1, f2, f3, f4, hs⟩))
          all_goals
            go_wp2_with fail
            go_meet
            case rel => first | exact ⟨_, rfl, rfl, hs.out.1.laid, up_al hs.out.2 _, hs.out.2.size⟩ | exact ⟨_, rfl, rfl, hs.out.1, hs.out.2, Nat.le_refl _⟩
        case rest =>
        obtain ⟨C, rfl, rfl, HO4⟩ := hcut
        clear HC HC2 HV q0 q1 q2 q3 q4 y0 y1 y2 y3 y4 yp
        have pc4 : wc.cell? ⟨bp, op + k, none⟩ = some (.slice ad d.length cd) := (HO4.out.2.1.cell (World.block_lt_of_cell? wr _ pc)).trans pc
        clear pc
        have hsub : IntKind.i64.wrap (1048576 - (want.length : Int)) = 1048576 - (want.length : Int) := by rw [IntKind.wrap_i64]; omega
        have HE := stR_extend (d := d) HSy.out.1 HSy.out.2 hwl
        rw [← HAe.out] at HE
        by_cases cf : 1048576 - (want.length : Int) < (d.length : Int)
        · have hA2 : A.2 = 51 := by rw [HE, if_pos cf]
          clear HE
          go_wp2_with (go_at_call 20; refine (num_any _ _).mono ?_; rintro e wq ⟨rfl, hwq⟩; rw [hwq]; clear hwq wq)
          go_ret
          exact ⟨rfl, up_trans HU.out HO4.out.2.1⟩
        · rw [if_neg cf] at HE
          have hA2 : A.2 = 0 := by rw [HE]
          have HA1 : Hid (A.1 = stR (want ++ d) syn) := by rw [HE]; rfl
          have hlen : ((want ++ d).length : Int) ≤ 1048576 := by rw [List.length_append]; omega
          have HWl : Hid ((want ++ d).length ≤ 1048576) := by unfold Hid; omega
          have HC4 : Hid (OwnB wc w.heap.size (.slice av want.length cv) want ∧ Octs wc (.slice ad d.length cd) d ∧ wc.heap[B]? = some (.cells #[.int .i64 1048576, .slice a1 n1 c1, .slice a2 n2 c2, .slice a3 n3 c3, .int .i64 2] 33)) := ⟨HOB.out.1.up HO4.out.2.1, HD.out.1.up HO4.out.2.1, blk_up HB.out HO4.out.2.1⟩
          have HOc : Hid (OctL (want ++ d)) := by
            intro x hx
            rcases List.mem_append.1 hx with hx | hx
            · exact HOB.out.2 x hx
            · exact HD.out.1.1 x hx
          have hbw : Hid (w.heap.size ≤ wc.heap.size) := Nat.le_trans HU.out.size HO4.out.2.1.size
          clear HE hlen
          go_wp2_with (first | (go_at_call 20; refine (num_any _ _).mono ?_; rintro e wq ⟨rfl, hwq⟩; rw [hwq]; clear hwq wq) | (at_builtin; refine wpList_append_octs wc rfl (.tmp 60) (.tmp 64) rfl w.heap.size (.slice av want.length cv) want rfl HC4.out.1 (.slice ad d.length cd) d rfl HC4.out.2.1 ?g1 hbw.out ?_))
          case g1 => omega
          intro v5 w5 o5 g5
          have HO5 : Hid (OwnS w5 wr.heap.size C (stR (want ++ d) syn) ∧ w5.heap[B]? = some (.cells #[.int .i64 1048576, .slice a1 n1 c1, .slice a2 n2 c2, .slice a3 n3 c3, .int .i64 2] 33) ∧ OwnB w5 w.heap.size v5 (want ++ d) ∧ Below w.heap.size w w5) := by
            have hlt := fun j hj => HOB.out.1.lt j hj
            have k4 := HO4.out.1
            rw [HA1.out] at k4
            refine ⟨k4.keep g5 (fun j hj => ⟨(hlt j hj).2, ?_⟩), blk_grown HC4.out.2.2 g5 ?_, o5, ?_⟩
            · have := (hlt j hj).2
              have := HO4.out.2.2
              omega
            · have := own_blk_ne HC4.out.1 HC4.out.2.2 (by decide)
              rcases this with q | q
              · rw [q]; simp
              · exact fun e => q e.symm
            · have uu := up_trans HU.out HO4.out.2.1
              exact uu.grown g5 uu.size (fun j hj => (hlt j hj).1)
          have HZ5 : Hid (wr.heap.size ≤ w5.heap.size ∧ B < wr.heap.size) := ⟨Nat.le_trans HO4.out.2.1.size g5.size, blk_lt HB.out⟩
          have HSyn : Hid (0 ≤ syn ∧ syn ≤ ((want ++ d).length : Int)) := by
            have := HSy.out
            refine ⟨this.1, ?_⟩
            rw [List.length_append]
            omega
          clear o5 g5 pc4 hsub
          have hbool : (k < sy.length ∧ ∃ bq oq, aq = some ⟨bq, oq, none⟩ ∧ w5.cell? ⟨bq, oq + k, none⟩ = some (.bool true)) ∨ (k < sy.length ∧ ∃ bq oq, aq = some ⟨bq, oq, none⟩ ∧ w5.cell? ⟨bq, oq + k, none⟩ = some (.bool false)) ∨ ¬ k < sy.length := by
            by_cases hks : k < sy.length
            · obtain ⟨bq, oq, cq', eq, cq0⟩ := (HA.out.2.up HO5.out.2.2.2).at k hks
              simp at eq
              cases hv : sy.getD k false with
              | true => rw [hv] at cq0; exact .inl ⟨hks, bq, oq, eq.1, cq0⟩
              | false => rw [hv] at cq0; exact .inr (.inl ⟨hks, bq, oq, eq.1, cq0⟩)
            · exact .inr (.inr hks)
          rcases hbool with ⟨hks, bq, oq, rfl, cq0⟩ | ⟨hks, bq, oq, rfl, cq0⟩ | hks
          · have hks' : (k : Int) < (sy.length : Int) := by omega
            obtain ⟨b1, m1, d1, b2, m2, d2, b3, m3, d3, hbx, ovx⟩ := HO5.out.1.shape
            have hbc : w5.heap[C]? = some (.cells #[.int .i64 1048576, .slice b1 m1 d1, .slice b2 m2 d2, .slice b3 m3 d3, .int .i64 2] 33) := hbx
            have HBC : Hid (w5.heap[C]? = some (.cells #[.int .i64 1048576, .slice b1 m1 d1, .slice b2 m2 d2, .slice b3 m3 d3, .int .i64 2] 33)) := hbc
            have HVC : Hid (StW w5 (.agg #[.int .i64 1048576, .slice b1 m1 d1, .slice b2 m2 d2, .slice b3 m3 d3, .int .i64 2]) (stR (want ++ d) syn)) := StW.own ovx
            have q0 := blk_cell hbc 0 _ rfl
            have q1 := blk_cell hbc 1 _ rfl
            have q2 := blk_cell hbc 2 _ rfl
            have q3 := blk_cell hbc 3 _ rfl
            have q4 := blk_cell hbc 4 _ rfl
            clear hbx hbc ovx
            go_wp2_with fail
            refine (do_any (stR (want ++ d) syn) ⟨3, [97], [], []⟩ _ _ w5 HVC.out (acw97 (by unfold In64; decide) ⟨(fun x hx => by cases hx), .inl ⟨rfl, none, 0, rfl, fun _ => rfl⟩⟩ (by simp)) (by simp [stR])).mono ?_
            rintro e w6 ⟨v6, rfl, ov6, u6⟩
            rw [stR_sync HSyn.out.1 HSyn.out.2 HWl.out] at ov6 ⊢
            obtain ⟨e4, p4, r4, e5, p5, r5, e6, p6, r6, e9⟩ := ov6.shape
            have e9' : v6 = .agg #[.int .i64 1048576, .slice e4 p4 r4, .slice e5 p5 r5, .slice e6 p6 r6, .int .i64 2] := e9
            clear e9
            subst e9'
            obtain ⟨W6, hW6⟩ : ∃ W6, W6 = w6.alloc (.cells #[.int .i64 1048576, .slice e4 p4 r4, .slice e5 p5 r5, .slice e6 p6 r6, .int .i64 2] 33) := ⟨_, rfl⟩
            obtain ⟨D, hD⟩ : ∃ D, D = w6.heap.size := ⟨_, rfl⟩
            have HW6 : Hid (w6.alloc (.cells #[.int .i64 1048576, .slice e4 p4 r4, .slice e5 p5 r5, .slice e6 p6 r6, .int .i64 2] 33) = W6) := hW6.symm
            have hbd : W6.heap[D]? = some (.cells #[.int .i64 1048576, .slice e4 p4 r4, .slice e5 p5 r5, .slice e6 p6 r6, .int .i64 2] 33) := by rw [hW6, hD]; exact blk_new w6 _
            have uW6 : Below w5.heap.size w5 W6 := by rw [hW6]; exact up_al u6 _
            have hbC := blk_up HBC.out uW6
            have HV6 : OwnV W6 w5.heap.size (.agg #[.int .i64 1048576, .slice e4 p4 r4, .slice e5 p5 r5, .slice e6 p6 r6, .int .i64 2]) (stR (want ++ d) ((want ++ d).length : Int)) := by rw [hW6]; exact ov6.up (up_al (Below.refl _ _) _)
            obtain ⟨W7, hW7⟩ : ∃ W7, W7 = set5 W6 C (.int .i64 1048576) (.slice e4 p4 r4) (.slice e5 p5 r5) (.slice e6 p6 r6) (.int .i64 2) := ⟨_, rfl⟩
            have HW7 : Hid (((((W6.setCell ⟨C, 0, none⟩ (.int .i64 1048576)).setCell ⟨C, 1, none⟩ (.slice e4 p4 r4)).setCell ⟨C, 2, none⟩ (.slice e5 p5 r5)).setCell ⟨C, 3, none⟩ (.slice e6 p6 r6)).setCell ⟨C, 4, none⟩ (.int .i64 2) = W7) := by unfold Hid; rw [hW7]; rfl
            have HO7 : Hid (OwnS W7 wr.heap.size C (stR (want ++ d) ((want ++ d).length : Int)) ∧ W7.heap[B]? = some (.cells #[.int .i64 1048576, .slice a1 n1 c1, .slice a2 n2 c2, .slice a3 n3 c3, .int .i64 2] 33) ∧ OwnB W7 w.heap.size v5 (want ++ d) ∧ Below w.heap.size w W7) := by
              have g7 := set5_grown W6 C (.int .i64 1048576) (.slice e4 p4 r4) (.slice e5 p5 r5) (.slice e6 p6 r6) (.int .i64 2)
              have ob6 := HO5.out.2.2.1.up uW6
              have uu := up_trans HO5.out.2.2.2 uW6
              have hne : some B ≠ some C := by
                intro q
                injection q with q
                have := HZ5.out.2
                have := HO4.out.2.2
                omega
              rw [hW7]
              exact ⟨((HV6.mono HZ5.out.1).put hbC).1, blk_grown (blk_up HO5.out.2.1 uW6) g7 hne, ob6.far g7 (own_blk_ne ob6 hbC (by decide)), uu.grown g7 uu.size (fun j hj => by injection hj with hj; rw [← hj]; exact Nat.le_trans HU.out.size HO4.out.2.2)⟩
            clear hW6 hW7 ov6 u6 uW6 HV6 q0 q1 q2 q3 q4
            go_upto_region 15 with fail
            rw [HW6.out, ← hD]
            clear HW6 hD
            have q0 := blk_cell hbd 0 _ rfl
            have q1 := blk_cell hbd 1 _ rfl
            have q2 := blk_cell hbd 2 _ rfl
            have q3 := blk_cell hbd 3 _ rfl
            have q4 := blk_cell hbd 4 _ rfl
            have x0 := blk_cell hbC 0 _ rfl
            have x1 := blk_cell hbC 1 _ rfl
            have x2 := blk_cell hbC 2 _ rfl
            have x3 := blk_cell hbC 3 _ rfl
            have x4 := blk_cell hbC 4 _ rfl
            have f0 := blk_frozen hbC 0
            have f1 := blk_frozen hbC 1
            have f2 := blk_frozen hbC 2
            have f3 := blk_frozen hbC 3
            have f4 := blk_frozen hbC 4
            clear hbd hbC
            go_upto_region 18 with (go_at_call 20; refine (num_any _ _).mono ?_; rintro e wq ⟨rfl, hwq⟩; rw [hwq]; clear hwq wq)
            rw [HW7.out]
            clear HW7 q0 q1 q2 q3 q4 x0 x1 x2 x3 x4 f0 f1 f2 f3 f4
            have HSyn2 : Hid (0 ≤ ((want ++ d).length : Int) ∧ ((want ++ d).length : Int) ≤ ((want ++ d).length : Int)) := ⟨by omega, by omega⟩
            obtain ⟨b1, m1, d1, b2, m2, d2, b3, m3, d3, hbx, ovx⟩ := HO7.out.1.shape
            have hbc : W7.heap[C]? = some (.cells #[.int .i64 1048576, .slice b1 m1 d1, .slice b2 m2 d2, .slice b3 m3 d3, .int .i64 2] 33) := hbx
            have HVC : Hid (OwnV W7 wr.heap.size (.agg #[.int .i64 1048576, .slice b1 m1 d1, .slice b2 m2 d2, .slice b3 m3 d3, .int .i64 2]) (stR (want ++ d) ((want ++ d).length : Int))) := ovx
            have HHB := HO7.out.2.1
            have q0 := blk_cell hbc 0 _ rfl
            have q1 := blk_cell hbc 1 _ rfl
            have q2 := blk_cell hbc 2 _ rfl
            have q3 := blk_cell hbc 3 _ rfl
            have q4 := blk_cell hbc 4 _ rfl
            have x0 := blk_cell HHB 0 _ rfl
            have x1 := blk_cell HHB 1 _ rfl
            have x2 := blk_cell HHB 2 _ rfl
            have x3 := blk_cell HHB 3 _ rfl
            have x4 := blk_cell HHB 4 _ rfl
            have f0 := blk_frozen HHB 0
            have f1 := blk_frozen HHB 1
            have f2 := blk_frozen HHB 2
            have f3 := blk_frozen HHB 3
            have f4 := blk_frozen HHB 4
            clear hbx hbc ovx HHB
            go_wp2_with (go_at_call 20; refine (num_any _ _).mono ?_; rintro e wq ⟨rfl, hwq⟩; rw [hwq]; clear hwq wq)
            exact reads_next (W := W7) (syn := ((want ++ d).length : Int)) HK.out.1 (by have h1 := HK.out.2; go_num) HSyn2.out HWl.out HO7.out.2.2.1 HOc.out HVC.out HU.out.size HO7.out.2.1 HBw.out HO7.out.2.2.2
          · have hks' : (k : Int) < (sy.length : Int) := by omega
            obtain ⟨b1, m1, d1, b2, m2, d2, b3, m3, d3, hbx, ovx⟩ := HO5.out.1.shape
            have hbc : w5.heap[C]? = some (.cells #[.int .i64 1048576, .slice b1 m1 d1, .slice b2 m2 d2, .slice b3 m3 d3, .int .i64 2] 33) := hbx
            have HVC : Hid (OwnV w5 wr.heap.size (.agg #[.int .i64 1048576, .slice b1 m1 d1, .slice b2 m2 d2, .slice b3 m3 d3, .int .i64 2]) (stR (want ++ d) syn)) := ovx
            have HHB := HO5.out.2.1
            have q0 := blk_cell hbc 0 _ rfl
            have q1 := blk_cell hbc 1 _ rfl
            have q2 := blk_cell hbc 2 _ rfl
            have q3 := blk_cell hbc 3 _ rfl
            have q4 := blk_cell hbc 4 _ rfl
            have x0 := blk_cell HHB 0 _ rfl
            have x1 := blk_cell HHB 1 _ rfl
            have x2 := blk_cell HHB 2 _ rfl
            have x3 := blk_cell HHB 3 _ rfl
            have x4 := blk_cell HHB 4 _ rfl
            have f0 := blk_frozen HHB 0
            have f1 := blk_frozen HHB 1
            have f2 := blk_frozen HHB 2
            have f3 := blk_frozen HHB 3
            have f4 := blk_frozen HHB 4
            clear hbx hbc ovx HHB
            go_wp2_with (go_at_call 20; refine (num_any _ _).mono ?_; rintro e wq ⟨rfl, hwq⟩; rw [hwq]; clear hwq wq)
            exact reads_next (W := w5) (syn := syn) HK.out.1 (by have h1 := HK.out.2; go_num) HSyn.out HWl.out HO5.out.2.2.1 HOc.out HVC.out HU.out.size HO5.out.2.1 HBw.out HO5.out.2.2.2
          · have hks' : ¬ (k : Int) < (sy.length : Int) := by omega
            obtain ⟨b1, m1, d1, b2, m2, d2, b3, m3, d3, hbx, ovx⟩ := HO5.out.1.shape
            have hbc : w5.heap[C]? = some (.cells #[.int .i64 1048576, .slice b1 m1 d1, .slice b2 m2 d2, .slice b3 m3 d3, .int .i64 2] 33) := hbx
            have HVC : Hid (OwnV w5 wr.heap.size (.agg #[.int .i64 1048576, .slice b1 m1 d1, .slice b2 m2 d2, .slice b3 m3 d3, .int .i64 2]) (stR (want ++ d) syn)) := ovx
            have HHB := HO5.out.2.1
            have q0 := blk_cell hbc 0 _ rfl
            have q1 := blk_cell hbc 1 _ rfl
            have q2 := blk_cell hbc 2 _ rfl
            have q3 := blk_cell hbc 3 _ rfl
            have q4 := blk_cell hbc 4 _ rfl
            have x0 := blk_cell HHB 0 _ rfl
            have x1 := blk_cell HHB 1 _ rfl
            have x2 := blk_cell HHB 2 _ rfl
            have x3 := blk_cell HHB 3 _ rfl
            have x4 := blk_cell HHB 4 _ rfl
            have f0 := blk_frozen HHB 0
            have f1 := blk_frozen HHB 1
            have f2 := blk_frozen HHB 2
            have f3 := blk_frozen HHB 3
            have f4 := blk_frozen HHB 4
            clear hbx hbc ovx HHB
            go_wp2_with (go_at_call 20; refine (num_any _ _).mono ?_; rintro e wq ⟨rfl, hwq⟩; rw [hwq]; clear hwq wq)
            exact reads_next (W := w5) (syn := syn) HK.out.1 (by have h1 := HK.out.2; go_num) HSyn.out HWl.out HO5.out.2.2.1 HOc.out HVC.out HU.out.size HO5.out.2.1 HBw.out HO5.out.2.2.2
      · have hk30' : ¬ (k : Int) < 30 := by omega
        go_wp2_with fail
        rw [← S1.out]
        refine (read_any (stR want syn) [97] (by unfold OctL; decide) _ wr HV.out (by simp [stR])).mono ?_
        rintro e w7 ⟨v7, rfl, ob7, oc7, u7⟩
        rw [stR_read HSy.out.1 HSy.out.2 hwl] at ob7 oc7 ⊢
        have HR : Hid (Octs w7 v7 want ∧ Octs w7 (.slice av want.length cv) want ∧ Below w.heap.size w w7) := ⟨Octs.own ob7 oc7, (Octs.own HOB.out.1 HOB.out.2).up u7, up_trans HU.out u7⟩
        clear ob7 oc7 u7 q0 q1 q2 q3 q4
        go_wp2_with (first | (go_at_call 20; refine (num_any _ _).mono ?_; rintro e wq ⟨rfl, hwq⟩; rw [hwq]; clear hwq wq) | (go_at_call 21; refine (same_self want _ _ _ HR.out.1 HR.out.2.1).mono ?_; rintro e wq ⟨rfl, hwq⟩; rw [hwq]; clear hwq wq))
        go_ret
        exact ⟨rfl, HR.out.2.2⟩
    · have hkl' : ¬ (k : Int) < (l.length : Int) := by omega
      go_wp2_with fail
      rw [← S1.out]
      refine (read_any (stR want syn) [97] (by unfold OctL; decide) _ wr HV.out (by simp [stR])).mono ?_
      rintro e w7 ⟨v7, rfl, ob7, oc7, u7⟩
      rw [stR_read HSy.out.1 HSy.out.2 hwl] at ob7 oc7 ⊢
      have HR : Hid (Octs w7 v7 want ∧ Octs w7 (.slice av want.length cv) want ∧ Below w.heap.size w w7) := ⟨Octs.own ob7 oc7, (Octs.own HOB.out.1 HOB.out.2).up u7, up_trans HU.out u7⟩
      clear ob7 oc7 u7 q0 q1 q2 q3 q4
      go_wp2_with (first | (go_at_call 20; refine (num_any _ _).mono ?_; rintro e wq ⟨rfl, hwq⟩; rw [hwq]; clear hwq wq) | (go_at_call 21; refine (same_self want _ _ _ HR.out.1 HR.out.2.1).mono ?_; rintro e wq ⟨rfl, hwq⟩; rw [hwq]; clear hwq wq))
      go_ret
      exact ⟨rfl, HR.out.2.2⟩
end Go.Proofs.Ytoceddpjkodfkaa
