/- The texts R7, S1, S2, S3, V1, in this order. -/
import Derived.Test.YtnchjlimkgbfpaaDoorG13
import Derived.ProofKit
import Derived.OpenShut
import Derived.SizedLaws
import Derived.Lib.SmallJoins

/- That the page's example is alive. -/
namespace Go.Proofs.YtnchjlimkgbfpaaDoor
open Go.RowKit
set_option linter.unusedVariables false
set_option linter.unusedSimpArgs false

theorem OwnV.laid {w : World} {base : Nat} {s : St} {a b c d e : Value} (h : OwnV w base (.agg #[a, b, c, d, e]) s) : OwnS (w.alloc (.cells #[a, b, c, d, e] 42)) base w.heap.size s := by
  obtain ⟨vf, vn, vs, m, ev, hm, of, on, os, hap, hi1, hi2⟩ := h
  simp at ev
  obtain ⟨rfl, rfl, rfl, rfl, rfl⟩ := ev
  have u := up_al (Below.refl w.heap.size w) (.cells #[.int .i64 s.cap, b, c, d, .int .i64 s.next] 42)
  exact ⟨trivial, _, _, _, m, blk_new w _, hm, of.up u, on.up u, os.up u, hap, hi1, hi2⟩

theorem OwnS.shape {w : World} {base B : Nat} {s : St} (h : OwnS w base B s) : ∃ af nf cf an nn cn as' ns cs', w.heap[B]? = some (.cells #[.int .i64 s.cap, .slice af nf cf, .slice an nn cn, .slice as' ns cs', .int .i64 s.next] 42) ∧ OwnV w base (.agg #[.int .i64 s.cap, .slice af nf cf, .slice an nn cn, .slice as' ns cs', .int .i64 s.next]) s := by
  obtain ⟨vf, vn, vs, hb, ov⟩ := h.take
  obtain ⟨a4, n4, c4, a5, n5, c5, a7, n7, c7, ev4⟩ := ov.shape
  simp at ev4
  obtain ⟨rfl, rfl, rfl⟩ := ev4
  exact ⟨_, _, _, _, _, _, _, _, _, hb, ov⟩

theorem OwnS.lt {w : World} {base B : Nat} {s : St} (h : OwnS w base B s) : B < w.heap.size := by
  obtain ⟨_, _, _, _, _, hb, _⟩ := h
  exact blk_lt hb

def sA : St := ⟨99, [], [], [], 1⟩
def sB : St := ⟨99, [(1, [120, 121, 122], 3)], [([97], 1)], [], 2⟩
def sC : St := ⟨99, [], [], [], 2⟩
def sD : St := ⟨99, [(1, [120, 121, 122], 3)], [([97], 1)], [([97], 1)], 2⟩
theorem al1 : newP 99 = (sA, 0) := by kernel_rfl
theorem al2 : runP sA (xyzL.take 3) = (sB, 3, 0) := by kernel_rfl
theorem al3 : crashP sB [] = (sC, 0) := by kernel_rfl
theorem al4 : readP sC [97] = ([], 71) := by kernel_rfl
theorem al5 : doP sB ⟨6, [], [], []⟩ = (sD, 0) := by kernel_rfl
theorem al6 : crashP sD [] = (sD, 0) := by kernel_rfl
theorem al7 : readP sD [97] = ([120, 121, 122], 0) := by kernel_rfl
theorem al8 : ∀ k, k ≤ (xyzL.take 3).length → Sound (afterN sA (xyzL.take 3) k) := by
  intro k hk
  have hk3 : k ≤ 3 := hk
  obtain rfl | rfl | rfl | rfl : k = 0 ∨ k = 1 ∨ k = 2 ∨ k = 3 := by omega
  · exact check_sound (by kernel_rfl)
  · exact check_sound (by kernel_rfl)
  · exact check_sound (by kernel_rfl)
  · exact check_sound (by kernel_rfl)

end Go.Proofs.YtnchjlimkgbfpaaDoor

/- The states that the law FilesReads walks through. -/
namespace Go.Proofs.YtnchjlimkgbfpaaDoor
open Go.RowKit
set_option linter.unusedVariables false
set_option linter.unusedSimpArgs false

def stR (want : List Int) (syn : Int) : St := ⟨1048576, [(1, want, syn)], [([97], 1)], [], 2⟩

theorem stR_check {want : List Int} {syn : Int} (h0 : 0 ≤ syn) (h1 : syn ≤ want.length) (h2 : want.length ≤ 1048576) : checkP (stR want syn) = true := by
  have b1 : boundsOf (stR want syn) = true := by simp [boundsOf, stR]
  have b2 : filesMayOf (stR want syn) = true := by
    simp [filesMayOf, stR, okFile, prevId, usedOf, h0, h1]
    omega
  have t1 : thereF [(1, want, syn)] 1 = true := by simp [thereF, rankF, rankOf]
  have b3 : namesMayOf (stR want syn).files (stR want syn).names = true := by
    have : mayOf [97] = true := by decide
    simp [namesMayOf, stR, okNameP, nameAt, t1, this, idsOf, addId]
  have b4 : namesMayOf (stR want syn).files (stR want syn).safe = true := by simp [namesMayOf, stR, idsOf]
  have b5 : allNamedOf (stR want syn) = true := by simp [allNamedOf, stR, idsOf, addId]
  unfold checkP
  rw [b1, b2, b3, b4, b5]
  rfl

theorem stR_there (want : List Int) (syn : Int) : thereN (stR want syn).names [97] = true ∧ rankN (stR want syn).names [97] = 0 ∧ idN (stR want syn) [97] = 1 ∧ thereF (stR want syn).files 1 = true ∧ rankF (stR want syn).files 1 = 0 := by
  have l : lessL [97] [97] = false := by decide
  refine ⟨?_, ?_, ?_, ?_, ?_⟩ <;> simp [thereN, rankN, rankOf, stR, l, idN, thereF, rankF]

theorem stR_has (want : List Int) (syn : Int) : hasF (stR want syn) [97] = true ∧ idxF (stR want syn) [97] = 0 ∧ fileD (stR want syn) 0 = (1, want, syn) := by
  obtain ⟨h1, h2, h3, h4, h5⟩ := stR_there want syn
  refine ⟨?_, ?_, rfl⟩
  · unfold hasF; rw [h3, h1, h4]; rfl
  · unfold idxF; rw [h3, h5]

theorem stR_extend {want d : List Int} {syn : Int} (h0 : 0 ≤ syn) (h1 : syn ≤ want.length) (h2 : want.length ≤ 1048576) : doP (stR want syn) ⟨2, [97], [], d⟩ = if 1048576 - (want.length : Int) < (d.length : Int) then (z0, 51) else (stR (want ++ d) syn, 0) := by
  obtain ⟨g1, g2, g3⟩ := stR_has want syn
  have hu : usedOf (stR want syn).files = want.length := by simp [usedOf, stR]
  have hc : (stR want syn).cap = 1048576 := rfl
  have ha : actP (stR want syn) ⟨2, [97], [], d⟩ = extendP (stR want syn) [97] d := by simp [actP]
  unfold doP
  rw [stR_check h0 h1 h2, ha]
  unfold extendP
  rw [g1, g2, g3, hu, hc]
  by_cases c : 1048576 - (want.length : Int) < (d.length : Int)
  · simp [c]
  · simp [c, stR]

theorem stR_sync {want : List Int} {syn : Int} (h0 : 0 ≤ syn) (h1 : syn ≤ want.length) (h2 : want.length ≤ 1048576) : doP (stR want syn) ⟨3, [97], [], []⟩ = (stR want want.length, 0) := by
  obtain ⟨g1, g2, g3⟩ := stR_has want syn
  have ha : actP (stR want syn) ⟨3, [97], [], []⟩ = syncP (stR want syn) [97] := by simp [actP]
  unfold doP
  rw [stR_check h0 h1 h2, ha]
  unfold syncP
  rw [g1, g2, g3]
  simp [stR]

theorem stR_read {want : List Int} {syn : Int} (h0 : 0 ≤ syn) (h1 : syn ≤ want.length) (h2 : want.length ≤ 1048576) : readP (stR want syn) [97] = (want, 0) := by
  obtain ⟨g1, g2, g3⟩ := stR_has want syn
  unfold readP
  rw [stR_check h0 h1 h2, g1, g2, g3]
  rfl

theorem stR_new : newP 1048576 = (⟨1048576, [], [], [], 1⟩, 0) := by kernel_rfl
theorem stR_first : doP ⟨1048576, [], [], [], 1⟩ ⟨1, [97], [], []⟩ = (stR [] 0, 0) := by kernel_rfl

end Go.Proofs.YtnchjlimkgbfpaaDoor

/- The walk of the law FilesReads. -/
namespace Go.Proofs.YtnchjlimkgbfpaaDoor
open Go.RowKit
set_option linter.unusedVariables false
set_option linter.unusedSimpArgs false

/-- Slices of octets, and Booleans, as they are read. -/
def BytesW (w : World) (v : Value) (l : List (List Int)) : Prop := ∃ m : List (Value × List Int), m.map (·.2) = l ∧ Rws 1 w v (m.map fun y => [y.1]) ∧ ∀ y ∈ m, Octs w y.1 y.2 ∧ y.2.length ≤ 140737488355328
def BoolsW (w : World) (v : Value) (l : List Bool) : Prop := Rws 1 w v (l.map fun b => [Value.bool b])
theorem BytesW.up {w w' : World} {v : Value} {l : List (List Int)} (h : BytesW w v l) (hb : Below w.heap.size w w') : BytesW w' v l := by
  obtain ⟨m, h1, h2, h3⟩ := h
  exact ⟨m, h1, h2.up hb, fun y hy => ⟨(h3 y hy).1.up hb, (h3 y hy).2⟩⟩
theorem BoolsW.up {w w' : World} {v : Value} {l : List Bool} (h : BoolsW w v l) (hb : Below w.heap.size w w') : BoolsW w' v l := Rws.up h hb
theorem BytesW.len {w : World} {v : Value} {l : List (List Int)} (h : BytesW w v l) : ∃ a cap, v = .slice a l.length cap ∧ l.length ≤ cap ∧ cap ≤ maxLen := by
  obtain ⟨m, rfl, h2, _⟩ := h
  obtain ⟨a, cap, e, h1, h2⟩ := h2.len
  rw [List.length_map] at e h1
  rw [List.length_map]
  exact ⟨a, cap, e, h1, h2⟩
theorem BoolsW.len {w : World} {v : Value} {l : List Bool} (h : BoolsW w v l) : ∃ a cap, v = .slice a l.length cap ∧ l.length ≤ cap ∧ cap ≤ maxLen := by
  obtain ⟨a, cap, e, h1, h2⟩ := Rws.len h
  rw [List.length_map] at e h1
  exact ⟨a, cap, e, h1, h2⟩
theorem BytesW.at {w : World} {v : Value} {l : List (List Int)} (h : BytesW w v l) (k : Nat) (hk : k < l.length) : ∃ b off cap ad cd, v = .slice (some ⟨b, off, none⟩) l.length cap ∧ w.cell? ⟨b, off + k, none⟩ = some (.slice ad (l.getD k []).length cd) ∧ Octs w (.slice ad (l.getD k []).length cd) (l.getD k []) ∧ (l.getD k []).length ≤ 140737488355328 := by
  obtain ⟨m, rfl, h2, h3⟩ := h
  rw [List.length_map] at hk ⊢
  obtain ⟨b, off, cap, e, _, _, hc⟩ := h2.at k (by rw [List.length_map]; exact hk)
  rw [List.length_map] at e
  have hr : (m.map fun y => [y.1]).getD k [] = [m[k].1] := by simp [List.getD, hk]
  have hr2 : (m.map (·.2)).getD k [] = m[k].2 := by simp [List.getD, hk]
  rw [hr] at hc
  rw [hr2]
  have h4 := h3 m[k] (List.getElem_mem hk)
  obtain ⟨ad, cd, evd, _⟩ := h4.1.slice
  have c0 := hc 0 _ rfl
  rw [Nat.mul_one, Nat.add_zero] at c0
  rw [evd] at c0 h4
  exact ⟨b, off, cap, ad, cd, e, c0, h4.1, h4.2⟩
theorem BoolsW.at {w : World} {v : Value} {l : List Bool} (h : BoolsW w v l) (k : Nat) (hk : k < l.length) : ∃ b off cap, v = .slice (some ⟨b, off, none⟩) l.length cap ∧ w.cell? ⟨b, off + k, none⟩ = some (.bool (l.getD k false)) := by
  obtain ⟨b, off, cap, e, _, _, hc⟩ := Rws.at h k (by rw [List.length_map]; exact hk)
  rw [List.length_map] at e
  have hr : (l.map fun b => [Value.bool b]).getD k [] = [.bool (l.getD k false)] := by simp [List.getD, hk]
  rw [hr] at hc
  have c0 := hc 0 _ rfl
  rw [Nat.mul_one, Nat.add_zero] at c0
  exact ⟨b, off, cap, e, c0⟩

theorem acw97 {w : World} {x : Int} {ad : Option Addr} {n cd : Nat} {d : List Int} (hx : In64 x) (h : Octs w (.slice ad n cd) d) (hd : d.length ≤ 140737488355328) : AcW w (.agg #[.int .i64 x, .string ⟨#[97]⟩, .string ⟨#[]⟩, .slice ad n cd]) ⟨x, [97], [], d⟩ := by
  have s1 : strOfNums [97] = ⟨#[97]⟩ := by decide
  have s0 : strOfNums [] = ⟨#[]⟩ := by decide
  have k1 : OctL [97] := by unfold OctL; decide
  have k0 : OctL [] := by unfold OctL; decide
  refine ⟨_, by simp only [s1, s0], h, hx, k1, by simp, k0, by simp, hd⟩

/-- A state is not felt where other, elder memory is written. -/
theorem OwnS.keep {w w' : World} {base B : Nat} {s : St} {r : Option Nat} (h : OwnS w base B s) (hg : w.grownBy w' r) (hr : ∀ k, r = some k → k < base ∧ k ≠ B) : OwnS w' base B s := by
  obtain ⟨h0, vf, vn, vs, m, hb, hm, of, on, os, hap, hi1, hi2⟩ := h
  have ne : ∀ {e sz : Nat} {v : Value} {n : Nat} {xs : List Value}, w.ownsRow base e sz v n xs → v.ownBlock = none ∨ v.ownBlock ≠ r := by
    intro e sz v n xs ho
    cases hv : v.ownBlock with
    | none => exact .inl rfl
    | some g =>
      refine .inr fun q => ?_
      have := (ho.lt g hv).1
      have := (hr g q.symm).1
      omega
  refine ⟨h0, vf, vn, vs, m, blk_grown hb hg (fun q => (hr B q.symm).2 rfl), hm, of.far hg (ne of.1.2) (fun y hy => ne (of.2.1 y hy).1), on.far hg (ne on.2.2), os.far hg (ne os.2.2), hap, hi1, hi2⟩

theorem reads_next {l : List (List Int)} {w W : World} {B b1 : Nat} {want : List Int} {syn : Int} {k : Nat} {ix v' : Value} {x0 x1 x2 x3 x4 y0 y1 y2 y3 y4 : Value} (hk : k < l.length) (hx : ix = .int .i64 ((k + 1 : Nat) : Int)) (hs : 0 ≤ syn ∧ syn ≤ want.length) (hl : want.length ≤ 1048576)
    (hb : OwnB W w.heap.size v' want) (ho : OctL want) (hv : OwnV W b1 (.agg #[y0, y1, y2, y3, y4]) (stR want syn)) (h1 : w.heap.size ≤ b1) (hB : W.heap[B]? = some (.cells #[x0, x1, x2, x3, x4] 42)) (hwB : w.heap.size ≤ B) (hu : Below w.heap.size w W) :
    (∃ (k : Nat) (want : List Int) (syn : Int) (av : Option Addr) (cv : Nat), k ≤ l.length ∧ ix = .int .i64 k ∧ v' = .slice av want.length cv ∧ Hid (0 ≤ syn ∧ syn ≤ want.length) ∧ want.length ≤ 1048576 ∧ Hid (OwnB (set5 W B y0 y1 y2 y3 y4) w.heap.size (.slice av want.length cv) want ∧ OctL want) ∧ Hid (OwnS (set5 W B y0 y1 y2 y3 y4) w.heap.size B (stR want syn)) ∧ Hid (Below w.heap.size w (set5 W B y0 y1 y2 y3 y4))) ∧ l.length - (intOf ix).toNat < l.length - (intOf (Value.int .i64 (k : Int))).toNat := by
  obtain ⟨av, cv, e, _⟩ := (Octs.own hb ho).slice
  subst e
  refine ⟨⟨k + 1, want, syn, av, cv, by omega, hx, rfl, hs, hl, ⟨hb.far (set5_grown _ _ _ _ _ _ _) (own_blk_ne hb hB (by decide)), ho⟩, ((hv.mono h1).put hB).1, hu.grown (set5_grown _ _ _ _ _ _ _) hu.size (fun j hj => by injection hj with hj; rw [← hj]; exact hwB)⟩, ?_⟩
  subst hx
  simp only [intOf]
  omega

end Go.Proofs.YtnchjlimkgbfpaaDoor

/- Slices of octet slices and of Booleans that were handed in. -/
namespace Go.Proofs.YtnchjlimkgbfpaaDoor
open Go.RowKit Go.ChangeShapes Go.WideShapes
set_option linter.unusedVariables false

theorem Tryd.cells56 : Tryd.prog.cellsOf 56 = 1 := by kernel_rfl
theorem Tryd.cells4 : Tryd.prog.cellsOf 4 = 1 := by kernel_rfl
theorem Tryd.cells5 : Tryd.prog.cellsOf 5 = 1 := by kernel_rfl
theorem Tryd.bytes5 : Tryd.prog.bytesOf 5 = 1 := by kernel_rfl

theorem pick_list {A : Type} (P : Nat → A → Prop) : ∀ n, (∀ i, i < n → ∃ p, P i p) → ∃ l : List A, l.length = n ∧ ∀ i p, l[i]? = some p → P i p
  | 0, _ => ⟨[], rfl, fun i p h => by simp at h⟩
  | n + 1, h => by
    obtain ⟨l, hl, hp⟩ := pick_list P n (fun i hi => h i (by omega))
    obtain ⟨p, hq⟩ := h n (by omega)
    refine ⟨l ++ [p], by simp [hl], fun i q hi => ?_⟩
    by_cases c : i < l.length
    · rw [List.getElem?_append_left c] at hi
      exact hp i q hi
    · rw [List.getElem?_append_right (by omega)] at hi
      have e : i - l.length = 0 := by
        rcases Nat.eq_zero_or_pos (i - l.length) with h | h
        · exact h
        · rw [List.getElem?_eq_none (by simp; omega)] at hi; cases hi
      rw [e] at hi
      simp at hi
      subst hi
      obtain rfl : i = n := by omega
      exact hq

theorem rows_one {A : Type} {W : World} {x : Addr} {len cap : Nat} (hl : len ≤ cap) (hm : cap ≤ maxLen) (f : A → Value) (Q : A → Prop) (h : ∀ i, i < len → ∃ p, W.cell? (x.add i) = some (f p) ∧ Q p) :
    ∃ l : List A, Rws 1 W (.slice (some x) len cap) (l.map fun p => [f p]) ∧ ∀ p ∈ l, Q p := by
  obtain ⟨l, hll, hp⟩ := pick_list (fun i p => W.cell? (x.add i) = some (f p) ∧ Q p) len h
  refine ⟨l, ⟨?_, some x, cap, by rw [List.length_map, hll], by rw [List.length_map]; omega, hm, (fun h => by cases h), ?_⟩, ?_⟩
  · intro cs hcs
    obtain ⟨p, _, rfl⟩ := List.mem_map.1 hcs
    rfl
  · intro hne
    have h0 : 0 < l.length := List.length_pos_iff.2 (by intro q; rw [q] at hne; simp at hne)
    obtain ⟨b, off, spot⟩ := x
    have hc := (hp 0 _ (List.getElem?_eq_getElem h0)).1
    have hspot : spot = none := by simpa [Addr.add] using World.cell?_spot hc
    subst hspot
    refine ⟨b, off, rfl, fun j cs hj i u hi => ?_⟩
    rw [List.getElem?_map] at hj
    cases hq : l[j]? with
    | none => rw [hq] at hj; simp at hj
    | some p =>
      rw [hq] at hj
      simp at hj
      subst hj
      match i, hi with
      | 0, hi =>
        simp at hi
        subst hi
        have := (hp j p hq).1
        simpa only [Addr.add_lit, Nat.mul_one, Nat.add_zero] using this
      | i + 1, hi => simp at hi
  · intro p hpm
    obtain ⟨i, hi⟩ := List.getElem?_of_mem hpm
    exact (hp i p hi).2

theorem cells_one {w : World} {base : Nat} {a : Addr} {x : Value} (h : w.cells? base a 1 = some [x]) : w.cell? a = some x := by
  obtain ⟨_, _, hc⟩ := World.cells?_some h
  have h0 := hc 0 (by decide)
  have e : a.add 0 = a := by cases a; simp [Addr.add]
  rw [e] at h0
  simpa using h0

theorem weightsAll_mem {H : Type} {P : Program} {t : TypeId} : ∀ {l : List (DataW H)} {d : DataW H}, d ∈ l → ∀ n ∈ d.weights P t, n ∈ DataW.weightsAll P t l
  | x :: r, d, hd, n, hn => by
    simp only [DataW.weightsAll, List.mem_append]
    rcases List.mem_cons.1 hd with rfl | hd
    · exact .inl hn
    · exact .inr (weightsAll_mem hd n hn)

theorem arg_octs {W : World} {x : Addr} {len cap : Nat} {zs : List Int} (hl : len ≤ cap) (hm : cap ≤ maxLen) (hz : zs.length = cap)
    (hcell : ∀ i, i < zs.length → W.cell? (x.add i) = some (.int .u8 (zs.getD i 0))) (hwz : ∀ n ∈ zs, (Lit.int .u8 n).wf = true) : Octs W (.slice (some x) len cap) (zs.take len) := by
  have hlen : (zs.take len).length = len := by rw [List.length_take]; omega
  refine ⟨fun y hy => bounds_u8 (hwz y (List.mem_of_mem_take hy)), ?_⟩
  by_cases h0 : len = 0
  · subst h0
    exact .inl ⟨by simp, _, _, rfl, fun h => by cases h⟩
  · obtain ⟨b, off, spot⟩ := x
    have hc := hcell 0 (by omega)
    have hspot : spot = none := by simpa [Addr.add] using World.cell?_spot hc
    subst hspot
    refine .inr ⟨?_, b, off, cap, by rw [hlen], by omega, hm, fun j y hj => ?_⟩
    · intro e
      rw [e] at hlen
      simp at hlen
      omega
    · rw [List.getElem?_take] at hj
      split at hj
      · have hjl : j < zs.length := by omega
        have h := hcell j hjl
        rw [Addr.add_lit] at h
        rw [h]
        simp [List.getD, hj]
      · cases hj

/-- A slice of octets inside what was handed in. -/
theorem open_octs {H : Type} {enc : TypeId × Value → H} {W : World} {fuel : Nat} {cs : List Value} {x : DataW H × List MemPlace} (h : DataW.trod enc Tryd.prog W 0 (fun _ => true) true fuel 56 cs = some x) (hw : ∀ n ∈ x.1.weights Tryd.prog 56, n ≤ reachBytes) :
    ∃ y : Value × List Int, cs = [y.1] ∧ Octs W y.1 y.2 ∧ y.2.length ≤ 140737488355328 := by
  rcases open_ints Tryd.underlying56 Tryd.underlying5 Tryd.cells5 h with ⟨hcs, _⟩ | ⟨a, l, c, zs, hcs, _, hl, hm, hz, hx, hcell, hwz⟩
  · exact ⟨(.slice none 0 0, []), hcs, ⟨(fun x hx => by cases hx), .inl ⟨rfl, _, _, rfl, fun _ => rfl⟩⟩, by simp⟩
  · have hz' : zs.length = c := by simpa using hz
    refine ⟨(.slice (some a) l c, zs.take l), hcs, arg_octs hl hm hz' hcell hwz, ?_⟩
    rw [hx] at hw
    have := hw ((lits .u8 (zs.take l)).length + (lits .u8 (zs.drop l)).length * 1) (by
      simp [DataW.weights, Tryd.underlying56, Tryd.bytes5]
      exact .inl rfl)
    simp only [lits, List.length_map, reachBytes] at this
    show (zs.take l).length ≤ 140737488355328
    omega

end Go.Proofs.YtnchjlimkgbfpaaDoor

/- States, acts and numbers that were handed in. -/
namespace Go.Proofs.YtnchjlimkgbfpaaDoor
open Go.RowKit Go.ChangeShapes Go.WideShapes
set_option linter.unusedVariables false

theorem Tryd.cells3 : Tryd.prog.cellsOf 3 = 1 := by kernel_rfl
theorem Tryd.cells9 : Tryd.prog.cellsOf 9 = 1 := by kernel_rfl
theorem Tryd.cells32 : Tryd.prog.cellsOf 32 = 1 := by kernel_rfl
theorem Tryd.cells33 : Tryd.prog.cellsOf 33 = 1 := by kernel_rfl
theorem Tryd.cells35 : Tryd.prog.cellsOf 35 = 5 := by kernel_rfl
theorem Tryd.cells77 : Tryd.prog.cellsOf 77 = 3 := by kernel_rfl
theorem Tryd.cells80 : Tryd.prog.cellsOf 80 = 2 := by kernel_rfl
theorem Tryd.bytes77 : Tryd.prog.bytesOf 77 = 40 := by kernel_rfl
theorem Tryd.bytes80 : Tryd.prog.bytesOf 80 = 24 := by kernel_rfl

theorem rows_any {A : Type} {n : Nat} (hn : 0 < n) {W : World} {x : Addr} {len cap : Nat} (hl : len ≤ cap) (hm : cap ≤ maxLen) (f : A → List Value) (hf : ∀ p, (f p).length = n) (Q : A → Prop)
    (h : ∀ i, i < len → ∃ p, W.cells? 0 (x.add (i * n)) n = some (f p) ∧ Q p) :
    ∃ l : List A, l.length = len ∧ Rws n W (.slice (some x) len cap) (l.map f) ∧ ∀ p ∈ l, Q p := by
  obtain ⟨l, hll, hp⟩ := pick_list (fun i p => W.cells? 0 (x.add (i * n)) n = some (f p) ∧ Q p) len h
  refine ⟨l, hll, ⟨?_, some x, cap, by rw [List.length_map, hll], by rw [List.length_map]; omega, hm, (fun h => by cases h), ?_⟩, ?_⟩
  · intro cs hcs
    obtain ⟨p, _, rfl⟩ := List.mem_map.1 hcs
    exact hf p
  · intro hne
    have h0 : 0 < l.length := List.length_pos_iff.2 (by intro q; rw [q] at hne; simp at hne)
    obtain ⟨b, off, spot⟩ := x
    obtain ⟨_, _, hc⟩ := World.cells?_some (hp 0 _ (List.getElem?_eq_getElem h0)).1
    have hc0 := hc 0 hn
    have hs : (f (l[0]))[0]? = some ((f (l[0]))[0]'(by rw [hf]; exact hn)) := List.getElem?_eq_getElem _
    have hc1 := hc0.trans hs
    have hspot : spot = none := by simpa [Addr.add] using World.cell?_spot hc1
    subst hspot
    refine ⟨b, off, rfl, fun j cs hj i u hi => ?_⟩
    rw [List.getElem?_map] at hj
    cases hq : l[j]? with
    | none => rw [hq] at hj; simp at hj
    | some p =>
      rw [hq] at hj
      simp at hj
      subst hj
      obtain ⟨_, _, hc⟩ := World.cells?_some (hp j p hq).1
      have hi2 : i < n := by
        have := (List.getElem?_eq_some_iff.1 hi).1
        rw [hf] at this
        exact this
      have := (hc i hi2).trans hi
      simpa only [Addr.add_lit] using this
  · intro p hpm
    obtain ⟨i, hi⟩ := List.getElem?_of_mem hpm
    exact (hp i p hi).2

theorem text_len {s : ByteArray} (h : s.data.toList.length ≤ reachBytes) : (nums s).length ≤ 140737488355328 := by
  rw [nums_length]
  have e : s.size = s.data.toList.length := by rw [Array.length_toList]; rfl
  rw [e]
  unfold reachBytes at h
  omega

set_option maxRecDepth 100000 in
theorem open_name {H : Type} {enc : TypeId × Value → H} {W : World} {fuel : Nat} {cs : List Value} {x : DataW H × List MemPlace} (h : DataW.trod enc Tryd.prog W 0 (fun _ => true) true fuel 80 cs = some x) (hw : ∀ n ∈ x.1.weights Tryd.prog 80, n ≤ reachBytes) :
    ∃ p : List Int × Int, cs = nrow p ∧ OctL p.1 ∧ p.1.length ≤ 140737488355328 ∧ In64 p.2 := by
  obtain ⟨y0, y1, n, rfl, hl, h0, h1⟩ := trod_struct2 Tryd.underlying80 h
  rw [Tryd.cells80] at hl
  match cs, hl with
  | [c0, c1], _ =>
    simp only [Tryd.cells9, Tryd.cells3, List.drop_zero, List.take_succ_cons, List.take_zero, List.drop_succ_cons] at h0 h1
    obtain ⟨s, e0, rfl, hs⟩ := DataW.trod_string Tryd.underlying9 h0
    obtain ⟨k, e1, rfl, hk⟩ := DataW.trod_int Tryd.underlying3 h1
    simp at e0 e1
    subst e0 e1
    refine ⟨(nums s, k), by simp [nrow, str_nums], nums_octet s, text_len (hw _ ?_), bounds_i64 hk⟩
    simp [DataW.weights, Tryd.underlying80, DataW.weightsEach]

set_option maxRecDepth 100000 in
theorem open_names {H : Type} {enc : TypeId × Value → H} {W : World} {fuel : Nat} {cs : List Value} {x : DataW H × List MemPlace} (h : DataW.trod enc Tryd.prog W 0 (fun _ => true) true fuel 33 cs = some x) (hw : ∀ n ∈ x.1.weights Tryd.prog 33, n ≤ reachBytes) :
    ∃ (v : Value) (l : List (List Int × Int)), cs = [v] ∧ NamesW W v l ∧ l.length * 24 ≤ 140737488351232 := by
  rcases DataW.trod_slice Tryd.underlying33 h with ⟨hcs, hx⟩ | ⟨x', len, cap, elems, rest, n, _, hcs, hx, hb, hl, hm, hlen, hel, _, _⟩
  · exact ⟨_, [], hcs, ⟨(fun p hp => by cases hp), Rws.nil 2 W⟩, by simp⟩
  · rw [Tryd.cells80] at hel
    have hwt := hw ((elems.length + rest.length) * 24) (by
      rw [hx]
      simp [DataW.weights, Tryd.underlying33, Tryd.bytes80])
    obtain ⟨l, hll, hr, hq⟩ := rows_any (n := 2) (by decide) (W := W) (x := x') hl hm nrow (fun _ => rfl) (fun p => OctL p.1 ∧ p.1.length ≤ 140737488355328 ∧ In64 p.2) (by
      intro i hi
      have e := hel i hi
      have hi2 : elems[i]? = some (elems[i]'(by omega)) := List.getElem?_eq_getElem (by omega)
      rw [hi2] at e
      cases hc : W.cells? 0 (x'.add (i * 2)) 2 with
      | none => rw [hc] at e; simp at e
      | some cs =>
        rw [hc] at e
        simp only [Option.bind_some] at e
        obtain ⟨p, rfl, hp⟩ := open_name e (by
          intro k hk
          refine hw k ?_
          rw [hx]
          simp only [DataW.weights, Tryd.underlying33, List.mem_cons, List.mem_append]
          exact .inr (.inl (weightsAll_mem (List.mem_map.2 ⟨_, List.getElem_mem (by omega : i < elems.length), rfl⟩) k hk)))
        exact ⟨p, rfl, hp⟩)
    refine ⟨_, l, hcs, ⟨hq, hr⟩, ?_⟩
    unfold reachBytes at hwt
    omega

set_option maxRecDepth 100000 in
theorem open_file {H : Type} {enc : TypeId × Value → H} {W : World} {fuel : Nat} {cs : List Value} {x : DataW H × List MemPlace} (h : DataW.trod enc Tryd.prog W 0 (fun _ => true) true fuel 77 cs = some x) (hw : ∀ n ∈ x.1.weights Tryd.prog 77, n ≤ reachBytes) :
    ∃ y : Value × Int × List Int × Int, cs = frow y ∧ Octs W y.1 y.2.2.1 ∧ y.2.2.1.length ≤ 140737488355328 ∧ In64 y.2.1 ∧ In64 y.2.2.2 := by
  obtain ⟨y0, y1, y2, n, rfl, hl, h0, h1, h2⟩ := Deep.trod_struct3 Tryd.underlying77 h
  rw [Tryd.cells77] at hl
  match cs, hl with
  | [c0, c1, c2], _ =>
    simp only [Tryd.cells56, Tryd.cells3, List.drop_zero, List.take_succ_cons, List.take_zero, List.drop_succ_cons] at h0 h1 h2
    obtain ⟨k, e0, rfl, hk⟩ := DataW.trod_int Tryd.underlying3 h0
    obtain ⟨z, e1, ho, hz⟩ := open_octs h1 (by
      intro m hm
      refine hw m ?_
      simp [DataW.weights, Tryd.underlying77, DataW.weightsEach]
      exact .inl hm)
    obtain ⟨j, e2, rfl, hj⟩ := DataW.trod_int Tryd.underlying3 h2
    simp at e0 e1 e2
    subst e0 e1 e2
    exact ⟨(z.1, k, z.2, j), rfl, ho, hz, bounds_i64 hk, bounds_i64 hj⟩

set_option maxRecDepth 100000 in
theorem open_files {H : Type} {enc : TypeId × Value → H} {W : World} {fuel : Nat} {cs : List Value} {x : DataW H × List MemPlace} (h : DataW.trod enc Tryd.prog W 0 (fun _ => true) true fuel 32 cs = some x) (hw : ∀ n ∈ x.1.weights Tryd.prog 32, n ≤ reachBytes) :
    ∃ (v : Value) (l : List (Int × List Int × Int)), cs = [v] ∧ FilesW W v l ∧ l.length * 40 ≤ 140737488351232 := by
  rcases DataW.trod_slice Tryd.underlying32 h with ⟨hcs, hx⟩ | ⟨x', len, cap, elems, rest, n, _, hcs, hx, hb, hl, hm, hlen, hel, _, _⟩
  · exact ⟨_, [], hcs, ⟨[], rfl, Rws.nil 3 W, (fun p hp => by cases hp)⟩, by simp⟩
  · rw [Tryd.cells77] at hel
    have hwt := hw ((elems.length + rest.length) * 40) (by
      rw [hx]
      simp [DataW.weights, Tryd.underlying32, Tryd.bytes77])
    obtain ⟨l, hll, hr, hq⟩ := rows_any (n := 3) (by decide) (W := W) (x := x') hl hm frow (fun _ => rfl) (fun y => Octs W y.1 y.2.2.1 ∧ y.2.2.1.length ≤ 140737488355328 ∧ In64 y.2.1 ∧ In64 y.2.2.2) (by
      intro i hi
      have e := hel i hi
      have hi2 : elems[i]? = some (elems[i]'(by omega)) := List.getElem?_eq_getElem (by omega)
      rw [hi2] at e
      cases hc : W.cells? 0 (x'.add (i * 3)) 3 with
      | none => rw [hc] at e; simp at e
      | some cs =>
        rw [hc] at e
        simp only [Option.bind_some] at e
        obtain ⟨p, rfl, hp⟩ := open_file e (by
          intro k hk
          refine hw k ?_
          rw [hx]
          simp only [DataW.weights, Tryd.underlying32, List.mem_cons, List.mem_append]
          exact .inr (.inl (weightsAll_mem (List.mem_map.2 ⟨_, List.getElem_mem (by omega : i < elems.length), rfl⟩) k hk)))
        exact ⟨p, rfl, hp⟩)
    refine ⟨_, l.map (·.2), hcs, ⟨l, rfl, hr, hq⟩, ?_⟩
    unfold reachBytes at hwt
    rw [List.length_map]
    omega

set_option maxRecDepth 100000 in
/-- A state that was handed in. -/
theorem arg_state {H : Type} {enc : TypeId × Value → H} {W : World} {base : Nat} {v : Value} {d : DataW H} {p : List MemPlace} (hv : Value.okWide Tryd.prog W .any base 35 v) (h : DataW.Trod enc Tryd.prog W 0 (fun _ => true) true 35 v d p) (hw : ∀ n ∈ d.weights Tryd.prog 35, n ≤ reachBytes) :
    ∃ s : St, StW W v s ∧ s.files.length * 40 ≤ 140737488351232 ∧ s.names.length * 24 ≤ 140737488351232 ∧ s.safe.length * 24 ≤ 140737488351232 := by
  obtain ⟨cs, rfl, hsz⟩ := okWide_struct Tryd.underlying35 hv
  rw [Tryd.cells35] at hsz
  obtain ⟨l⟩ := cs
  obtain ⟨fuel, hf⟩ := h
  obtain ⟨xs, n, _, hx, _, hxl, hfi⟩ := DataW.trod_struct Tryd.underlying35 hf
  match l, hsz with
  | [c0, c1, c2, c3, c4], _ =>
    match xs, hxl with
    | [y0, y1, y2, y3, y4], _ =>
      have f0 := hfi 0 _ rfl
      have f1 := hfi 1 _ rfl
      have f2 := hfi 2 _ rfl
      have f3 := hfi 3 _ rfl
      have f4 := hfi 4 _ rfl
      simp [Value.cells, Tryd.cells3, Tryd.cells32, Tryd.cells33] at f0 f1 f2 f3 f4
      simp only [Prod.mk.injEq] at hx
      obtain ⟨hx1, _⟩ := hx
      obtain ⟨k0, e0, rfl, hk0⟩ := DataW.trod_int Tryd.underlying3 f0
      obtain ⟨vf, lf, e1, hfl, hfn⟩ := open_files f1 (by
        intro m hm
        refine hw m ?_
        rw [hx1]
        simp [DataW.weights, Tryd.underlying35, DataW.weightsEach]
        exact .inl hm)
      obtain ⟨vn, ln, e2, hn, hnn⟩ := open_names f2 (by
        intro m hm
        refine hw m ?_
        rw [hx1]
        simp [DataW.weights, Tryd.underlying35, DataW.weightsEach]
        exact .inr (.inl hm))
      obtain ⟨vs, ls, e3, hs, hsn⟩ := open_names f3 (by
        intro m hm
        refine hw m ?_
        rw [hx1]
        simp [DataW.weights, Tryd.underlying35, DataW.weightsEach]
        exact .inr (.inr (.inl hm)))
      obtain ⟨k4, e4, rfl, hk4⟩ := DataW.trod_int Tryd.underlying3 f4
      simp at e0 e1 e2 e3 e4
      subst e0 e1 e2 e3 e4
      exact ⟨⟨k0, lf, ln, ls, k4⟩, ⟨_, _, _, rfl, hfl, hn, hs, bounds_i64 hk0, bounds_i64 hk4⟩, hfn, hnn, hsn⟩

end Go.Proofs.YtnchjlimkgbfpaaDoor
