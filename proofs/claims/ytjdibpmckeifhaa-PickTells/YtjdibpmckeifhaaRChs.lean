/- The document's chosen. -/
import Derived.Test.YtjdibpmckeifhaaJLeav
import Derived.Test.YtjdibpmckeifhaaJChM
namespace Go.Proofs.Ytjdibpmckeifhaa
open Go.RowKit
set_option linter.unusedVariables false
set_option linter.unusedSimpArgs false

theorem Rws.oneAt {w : World} {a : Option Addr} {n c : Nat} {l : List Me} (h : MetsR w (.slice a n c) l) (k : Nat) (hk : k < l.length) (x : Me) (hx : l[k]? = some x) : MetsR w (.slice (a.map (·.add (k * 5))) 1 (c - k)) [x] := by
  obtain ⟨hx1, a', cap, e, h1, h2, h3, h4⟩ := h
  simp only [Value.slice.injEq] at e
  obtain ⟨rfl, rfl, rfl⟩ := e
  rw [List.length_map] at h1
  refine ⟨fun cs hcs => ?_, _, c - k, rfl, ?_, by omega, ?_, fun _ => ?_⟩
  · simp at hcs; subst hcs; rfl
  · simp only [List.map_cons, List.map_nil, List.length_cons, List.length_nil]; omega
  · intro q
    cases a with
    | none => have := h3 rfl; omega
    | some a => simp at q
  · obtain ⟨b, off, rfl, hc⟩ := h4 (by intro q; rw [List.map_eq_nil_iff] at q; rw [q] at hk; simp at hk)
    refine ⟨b, off + k * 5, by simp [Addr.add_lit], fun j cs hj i u hi => ?_⟩
    obtain rfl : j = 0 := by
      have := (List.getElem?_eq_some_iff.1 hj).1
      simp at this
      omega
    simp at hj
    subst hj
    have := hc k (meRow x) (by simp [hx]) i u hi
    simpa using this
set_option maxHeartbeats 4000000 in
set_option maxRecDepth 100000 in
theorem refChosen_any (ts : List Me) (seq next lev : Int) (va : Option Addr) (vn vc : Nat) (w : World) (hv : MetsR w (.slice va vn vc) ts) (he : errV ts seq next = 0) (hne : atM ts lev ≠ []) :
    Calls Try.prog 32 #[.agg #[.slice va vn vc, .int .i64 seq, .int .i64 next], .int .i64 lev] w fun e w' => ∃ a n c, e = .returned (.slice a n c) ∧ Hid (MetsR w' (.slice a n c) (chosenM ts lev)) ∧ Hid (Below w.heap.size w w') ∧ Hid (∀ g, (Value.slice a n c).ownBlock = some g → w.heap.size ≤ g) := by
  have HV : Hid (MetsR w (.slice va vn vc) ts) := hv
  obtain ⟨w0, hw0⟩ : ∃ w0, w0 = w.alloc (.cells #[.slice va vn vc, .int .i64 seq, .int .i64 next] 24) := ⟨_, rfl⟩
  have HW0 : Hid (w.alloc (.cells #[.slice va vn vc, .int .i64 seq, .int .i64 next] 24) = w0) := hw0.symm
  have U0 : Hid (Below w.heap.size w w0) := by rw [hw0]; exact up_alloc _ _
  have B0 : Hid (w0.heap[w.heap.size]? = some (.cells #[.slice va vn vc, .int .i64 seq, .int .i64 next] 24)) := by rw [hw0]; exact blk_new _ _
  have HCA := hid (rat_any ts seq next lev va vn vc w0 (hv.up U0.out) he)
  have HLA : Hid ((atM ts lev).length ≤ 256) := (cnt_at he lev).1
  have HNE := hid hne
  obtain ⟨CH, hCH⟩ : ∃ CH, CH = chosenM ts lev := ⟨_, rfl⟩
  have HCH : Hid (CH = leaveM lev (atM ts lev)) := by unfold Hid; rw [leave_chosen]; exact hCH
  clear hv hw0 he hne
  have x0 := blk_cell B0.out 0 _ rfl
  have x1 := blk_cell B0.out 1 _ rfl
  have x2 := blk_cell B0.out 2 _ rfl
  rw [← hCH]
  clear hCH
  go_enter Try.func32, Try.ntmps32
  go_upto_region 1 with fail
  rw [HW0.out]
  clear HW0
  go_wp2_with fail
  refine HCA.out.mono ?_
  rintro e w2 ⟨ra, rn, rc, rfl, O2, u2⟩
  have U2 := hid (up_trans U0.out u2.out)
  have HRN := hid (rows_mlen O2.out)
  obtain rfl : rn = (atM ts lev).length := HRN.out
  have HM : Hid (MetsR w2 (.slice ra (atM ts lev).length rc) (atM ts lev)) := Rws.own O2.out
  have hL := HLA.out
  have HG0 : Hid (∀ g, (Value.slice ra (atM ts lev).length rc).ownBlock = some g → w.heap.size ≤ g) := fun g hg => Nat.le_trans U0.out.size (O2.out.2.lt g hg).1
  clear x0 x1 x2 HCA u2 U0 B0 O2 HRN HLA
  clear w0
  generalize atM ts lev = l at *
  by_cases h0 : lev = 0
  · subst h0
    have HT : Hid (leaveM 0 l = l) := if_pos rfl
    go_wp2_with fail
    go_ret
    exact ⟨_, _, _, rfl, by rw [HCH.out, HT.out]; exact HM, U2, HG0⟩
  have HL0 : Hid (lev ≠ 0) := h0
  have e0 : (lev == 0) = false := by simpa using h0
  have hpos : 0 < l.length := List.length_pos_iff.2 HNE.out
  clear h0
  go_wp2_with fail
  go_loopw [6, 7] (fun o i wr => ∃ (k b d : Nat), k ≤ l.length ∧ i = .int .i64 k ∧ o = .int .i64 b ∧ b < l.length ∧ Hid (bestI l k b) ∧ wr = w2.drewN d) (fun _ i _ => l.length - (intOf i).toNat)
  case atStart => exact ⟨0, 0, 0, Nat.zero_le _, rfl, rfl, hpos, bestI_zero hpos, rfl⟩
  case round =>
    obtain ⟨k, bi, d, hk, rfl, rfl, hbi, HBI, rfl⟩ := hrel
    have hbi' : (bi : Int) < (l.length : Int) := by omega
    obtain ⟨b', off', cap', y, e, hy, y0, y1, y2, y3, y4⟩ := HM.out.at bi hbi
    simp only [Value.slice.injEq] at e
    obtain ⟨rfl, _, rfl⟩ := e
    by_cases hlt : k < l.length
    · have hlt' : (k : Int) < (l.length : Int) := by omega
      obtain ⟨b, off, cap, x, e, hx, x0, x1, x2, x3, x4⟩ := HM.out.at k hlt
      simp only [Value.slice.injEq, Option.some.injEq, Addr.mk.injEq] at e
      obtain ⟨⟨rfl, rfl, _⟩, _, rfl⟩ := e
      have HBI2 := hid (bestI_step HBI.out hx hy)
      clear hx hy HBI
      by_cases hq : y.cnt < x.cnt
      · rw [if_pos hq] at HBI2
        go_wp2_with fail
        go_quiet (fail)
        go_wp2_with fail
        exact ⟨⟨k + 1, k, d + nq, by omega, by go_num, rfl, hlt, HBI2, rfl⟩, by simp [intOf]; omega⟩
      · rw [if_neg hq] at HBI2
        go_wp2_with fail
        go_quiet (fail)
        go_wp2_with fail
        exact ⟨⟨k + 1, bi, d + nq, by omega, by go_num, rfl, hbi, HBI2, rfl⟩, by simp [intOf]; omega⟩
    · have hlt' : ¬ (k : Int) < (l.length : Int) := by omega
      obtain rfl : k = l.length := by omega
      have HT := hid (bestI_end HBI.out hy HNE.out lev HL0.out)
      have HBG : Hid (∀ g, (Value.slice (some (⟨b', off' + bi * 5, none⟩ : Addr)) 1 (rc - bi)).ownBlock = some g → w.heap.size ≤ g) := fun g hg => HG0.out g (by simpa [Value.ownBlock, Addr.add_lit] using hg)
      have HONE : Hid (MetsR (w2.drewN d) (.slice (some ⟨b', off' + bi * 5, none⟩) 1 (rc - bi)) [y]) := by
        unfold Hid
        have := Rws.oneAt (HM.out.up (up_drewN w2 d)) bi hbi y hy
        simpa [Addr.add_lit] using this
      obtain ⟨q1, hcap, eq1, hcap1, hcap2⟩ := HM.out.len
      obtain rfl : rc = hcap := by simp only [Value.slice.injEq] at eq1; exact eq1.2.2
      clear eq1
      have hc1 : (bi : Int) + 1 ≤ (rc : Int) := by omega
      have hc2 : ¬ rc = bi := by omega
      have hc3 : bi + 1 - bi = 1 := by omega
      have hw63 : (rc : Int) ≤ 9223372036854775807 := by unfold maxLen at hcap2; omega
      clear hy
      go_wp2_with fail
      go_ret
      exact ⟨_, _, _, rfl, by rw [HCH.out, HT.out]; exact HONE, up_trans U2.out (up_drewN _ _), HBG⟩
end Go.Proofs.Ytjdibpmckeifhaa
