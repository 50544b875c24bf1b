/- The program's leaving. -/
import Derived.Test.YtjdibpmckeifhaaJAt
namespace Go.Proofs.Ytjdibpmckeifhaa
open Go.RowKit
set_option linter.unusedVariables false
set_option linter.unusedSimpArgs false

def leaveM (lev : Int) (l : List Me) : List Me := if lev = 0 then l else match l with
  | [] => []
  | m :: r => [bestM m r]
theorem leave_chosen (ts : List Me) (lev : Int) : leaveM lev (atM ts lev) = chosenM ts lev := by
  unfold leaveM chosenM
  by_cases h : lev = 0
  · subst h; rw [if_pos rfl, if_pos rfl]
  · rw [if_neg h, if_neg h]
    rfl
/-- The place of the best of the first k. -/
def bestI (l : List Me) (k b : Nat) : Prop := b < l.length ∧ ∀ m r, l = m :: r → l[b]? = some (bestM m (l.take k))
theorem bestI_zero {l : List Me} (h : 0 < l.length) : bestI l 0 0 := by
  refine ⟨h, fun m r e => ?_⟩
  rw [e]
  rfl
theorem bestI_step {l : List Me} {k b : Nat} {x y : Me} (h : bestI l k b) (hk : l[k]? = some x) (hb : l[b]? = some y) : bestI l (k + 1) (if y.cnt < x.cnt then k else b) := by
  have hkl := (List.getElem?_eq_some_iff.1 hk).1
  refine ⟨?_, fun m r e => ?_⟩
  · split
    · exact hkl
    · exact h.1
  · have h2 := h.2 m r e
    rw [hb] at h2
    have h3 : y = bestM m (l.take k) := by simpa using h2
    rw [List.take_add_one, hk, Option.toList_some, bestM_snoc, ← h3]
    split
    · exact hk
    · exact hb
theorem bestI_end {l : List Me} {b : Nat} {y : Me} (h : bestI l l.length b) (hb : l[b]? = some y) (hn : l ≠ []) (lev : Int) (hl : lev ≠ 0) : leaveM lev l = [y] := by
  unfold leaveM
  rw [if_neg hl]
  cases l with
  | nil => exact absurd rfl hn
  | cons m r =>
    have h2 := h.2 m r rfl
    rw [hb, List.take_length, bestM_self] at h2
    have h3 : y = bestM m r := by simpa using h2
    rw [h3]
theorem meFlat (m : Me) : ([m].map meRow).flatten = [.int .i64 m.id, .int .i64 m.lvl, .int .i64 m.cnt, .string m.low, .string m.high] := rfl
theorem own_one (w : World) (base : Nat) (hb : base ≤ w.heap.size) (m : Me) : OwnR (w.alloc (.cells #[.int .i64 m.id, .int .i64 m.lvl, .int .i64 m.cnt, .string m.low, .string m.high] 70)) base 70 5 (.slice (some ⟨w.heap.size, 0, none⟩) 1 1) ([m].map meRow) := by
  refine ⟨fun cs hcs => ?_, ?_⟩
  · simp at hcs; subst hcs; rfl
  · exact ⟨rfl, .inr ⟨w.heap.size, 1, #[.int .i64 m.id, .int .i64 m.lvl, .int .i64 m.cnt, .string m.low, .string m.high], rfl, hb, blk_new _ _, Nat.le_refl _, by decide, rfl, rfl⟩⟩
set_option maxHeartbeats 4000000 in
set_option maxRecDepth 100000 in
theorem leaving_any (lev : Int) (l : List Me) (v : Value) (base : Nat) (w : World) (hv : OwnR w base 70 5 v (l.map meRow)) (hl : l.length ≤ 4000000) (hne : l ≠ []) (hb : base ≤ w.heap.size) :
    Calls Try.prog 27 #[.int .i64 lev, v] w fun e w' => ∃ a n c, e = .returned (.slice a n c) ∧ Hid (OwnR w' base 70 5 (.slice a n c) ((leaveM lev l).map meRow)) ∧ Hid (Below w.heap.size w w') := by
  obtain ⟨va, vn, vc, rfl, HO⟩ := rows_shape hv
  have HV : Hid (MetsR w (.slice va vn vc) l) := Rws.own hv
  have HNE : Hid (l ≠ []) := hne
  have HBS : Hid (base ≤ w.heap.size) := hb
  obtain ⟨a', c', e', _, _⟩ := (HV.out).len
  simp only [Value.slice.injEq] at e'
  obtain ⟨rfl, rfl, rfl⟩ := e'
  clear hv hne hb
  by_cases h0 : lev = 0
  · subst h0
    have HT : Hid (leaveM 0 l = l) := if_pos rfl
    go_enter Try.func27, Try.ntmps27
    go_wp2_with fail
    go_ret
    exact ⟨_, _, _, rfl, by rw [HT.out]; exact HO, Below.refl _ _⟩
  have HL0 : Hid (lev ≠ 0) := h0
  have e0 : (lev == 0) = false := by simpa using h0
  have hpos : 0 < l.length := List.length_pos_iff.2 HNE.out
  clear h0
  go_enter Try.func27, Try.ntmps27
  go_wp2_with fail
  go_loopw [5, 13] (fun o i wr => ∃ (k b : Nat), k ≤ l.length ∧ i = .int .i64 k ∧ o = .int .i64 b ∧ b < l.length ∧ Hid (bestI l k b) ∧ Hid (Below w.heap.size w wr)) (fun _ i _ => l.length - (intOf i).toNat)
  case atStart => exact ⟨0, 0, Nat.zero_le _, rfl, rfl, hpos, bestI_zero hpos, Below.refl _ _⟩
  case round =>
    obtain ⟨k, bi, hk, rfl, rfl, hbi, HBI, HB⟩ := hrel
    by_cases hlt : k < l.length
    · have hlt' : (k : Int) < (l.length : Int) := by omega
      have hbi' : (bi : Int) < (l.length : Int) := by omega
      obtain ⟨b, off, cap, x, e, hx, x0, x1, x2, x3, x4⟩ := (HV.out.up HB.out).at k hlt
      simp only [Value.slice.injEq] at e
      obtain ⟨rfl, _, rfl⟩ := e
      have HB2 : Hid (Below w.heap.size w (wr.alloc (meBox x))) := up_al HB.out _
      obtain ⟨b', off', cap', y, e, hy, y0, y1, y2, y3, y4⟩ := (HV.out.up HB2.out).at bi hbi
      simp only [Value.slice.injEq, Option.some.injEq, Addr.mk.injEq] at e
      obtain ⟨⟨rfl, rfl, _⟩, _, rfl⟩ := e
      have HBI2 := hid (bestI_step HBI.out hx hy)
      have BX : Hid (BoxM (wr.alloc (meBox x)) wr.heap.size x) := blk_new _ _
      clear hx hy HBI
      obtain ⟨w2, hw2⟩ : ∃ w2, w2 = wr.alloc (meBox x) := ⟨_, rfl⟩
      have HW2 : Hid (wr.alloc (.cells #[.int .i64 x.id, .int .i64 x.lvl, .int .i64 x.cnt, .string x.low, .string x.high] 70) = w2) := hw2.symm
      rw [← hw2] at HB2 BX y0 y1 y2 y3 y4
      clear hw2
      go_upto_region 7 with fail
      rw [HW2.out]
      clear HW2
      generalize wr.heap.size = NX at *
      clear x0 x1 x2 x3 x4
      obtain ⟨m0, m1, m2, m3, m4⟩ := BX.out.cells
      by_cases hq : y.cnt < x.cnt
      · rw [if_pos hq] at HBI2
        go_quiet (fail)
        go_wp2_with fail
        exact ⟨⟨k + 1, k, by omega, by go_num, rfl, hlt, HBI2, up_trans HB2.out (up_drewN _ _)⟩, by simp [intOf]; omega⟩
      · rw [if_neg hq] at HBI2
        go_quiet (fail)
        go_wp2_with fail
        exact ⟨⟨k + 1, bi, by omega, by go_num, rfl, hbi, HBI2, up_trans HB2.out (up_drewN _ _)⟩, by simp [intOf]; omega⟩
    · have hlt' : ¬ (k : Int) < (l.length : Int) := by omega
      obtain rfl : k = l.length := by omega
      have hbi' : (bi : Int) < (l.length : Int) := by omega
      obtain ⟨b', off', cap', y, e, hy, y0, y1, y2, y3, y4⟩ := (HV.out.up HB.out).at bi hbi
      simp only [Value.slice.injEq] at e
      obtain ⟨rfl, _, rfl⟩ := e
      have HT := hid (bestI_end HBI.out hy HNE.out lev HL0.out)
      have HOW := hid (own_one wr base (Nat.le_trans HBS.out HB.out.size) y)
      clear hy
      go_wp2_with fail
      go_ret
      exact ⟨_, _, _, rfl, by rw [HT.out]; exact HOW, up_al HB.out _⟩
end Go.Proofs.Ytjdibpmckeifhaa
