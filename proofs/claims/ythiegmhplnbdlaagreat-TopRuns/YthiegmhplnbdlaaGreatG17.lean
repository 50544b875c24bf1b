/- Texts of layers 1 to 13, in this order. -/
import Derived.Test.YthiegmhplnbdlaaGreatG16
import Derived.Test.YthiegmhplnbdlaaGreatG15
import Derived.Test.YthiegmhplnbdlaaGreatG13
import Derived.Deep.RegionHeld3
import Derived.Test.YthiegmhplnbdlaaGreatG08
import Derived.ChangeKeysEq
import Derived.Test.YthiegmhplnbdlaaGreatG14
import Derived.Laws.OwnMore

namespace Go.Proofs.YthiegmhplnbdlaaGreat
open Go.RowKit
set_option linter.unusedVariables false
set_option linter.unusedSimpArgs false
def natV (n : Nat) : Value := .int .i64 (n : Int)
def arrC (L : List Nat) : Array Value := (L.map natV).toArray
theorem results_arr {fn : Func} {q : Nat} (h : fn.results = #[.cell q 89]) (tmps : Array Value) (w : World) {N : Nat} {a b c d e f g i : Value} (ht : tmps.getD q undef = .pointer (some ⟨N, 0, none⟩))
    (hc : w.heap[N]? = some (.cells #[a, b, c, d, e, f, g, i] 89)) : (results fn tmps).run Tryz.prog w = .ok (.agg #[a, b, c, d, e, f, g, i]) w := by
  have c0 := blk_cell hc 0 a rfl
  have c1 := blk_cell hc 1 b rfl
  have c2 := blk_cell hc 2 c rfl
  have c3 := blk_cell hc 3 d rfl
  have c4 := blk_cell hc 4 e rfl
  have c5 := blk_cell hc 5 f rfl
  have c6 := blk_cell hc 6 g rfl
  have c7 := blk_cell hc 7 i rfl
  have ht' : tmps[q]?.getD undef = .pointer (some ⟨N, 0, none⟩) := by simpa using ht
  simp only [results, h]
  simp [ht', go_sem, c0, c1, c2, c3, c4, c5, c6, c7]
theorem arr_set (L : List Nat) (l a : Nat) : (arrC L).setIfInBounds l (natV a) = arrC (L.set l a) := by
  simp [arrC, List.map_set]
theorem eight (L : List Nat) (h : L.length = 8) : ∃ a b c d e f g i, L = [a, b, c, d, e, f, g, i] := by
  match L, h with
  | [a, b, c, d, e, f, g, i], _ => exact ⟨a, b, c, d, e, f, g, i, rfl⟩
theorem set8_blk {w : World} {N : Nat} {t : TypeId} {x0 x1 x2 x3 x4 x5 x6 x7 : Value} (h : w.heap[N]? = some (.cells #[x0, x1, x2, x3, x4, x5, x6, x7] t)) (a b c d e f g i : Value) : ((((((((w.setCell ⟨N, 0, none⟩ a).setCell ⟨N, 1, none⟩ b).setCell ⟨N, 2, none⟩ c).setCell ⟨N, 3, none⟩ d).setCell ⟨N, 4, none⟩ e).setCell ⟨N, 5, none⟩ f).setCell ⟨N, 6, none⟩ g).setCell ⟨N, 7, none⟩ i).heap[N]? = some (.cells #[a, b, c, d, e, f, g, i] t) := by
  have := blk_set (blk_set (blk_set (blk_set (blk_set (blk_set (blk_set (blk_set h 0 a) 1 b) 2 c) 3 d) 4 e) 5 f) 6 g) 7 i
  simpa only [List.setIfInBounds_toArray, List.set_cons_zero, List.set_cons_succ] using this
theorem set8_grown (w : World) (N : Nat) (a b c d e f g i : Value) : w.grownBy ((((((((w.setCell ⟨N, 0, none⟩ a).setCell ⟨N, 1, none⟩ b).setCell ⟨N, 2, none⟩ c).setCell ⟨N, 3, none⟩ d).setCell ⟨N, 4, none⟩ e).setCell ⟨N, 5, none⟩ f).setCell ⟨N, 6, none⟩ g).setCell ⟨N, 7, none⟩ i) (some N) :=
  grown_trans (grown_trans (grown_trans (grown_trans (grown_trans (grown_trans (grown_trans (grown_set w ⟨N, 0, none⟩ a) (grown_set _ ⟨N, 1, none⟩ b)) (grown_set _ ⟨N, 2, none⟩ c)) (grown_set _ ⟨N, 3, none⟩ d)) (grown_set _ ⟨N, 4, none⟩ e)) (grown_set _ ⟨N, 5, none⟩ f)) (grown_set _ ⟨N, 6, none⟩ g)) (grown_set _ ⟨N, 7, none⟩ i)
theorem blk4 (w : World) (a b c d : Obj) : ((((w.alloc a).alloc b).alloc c).alloc d).heap[w.heap.size]? = some a ∧ ((((w.alloc a).alloc b).alloc c).alloc d).heap[w.heap.size + 1]? = some b ∧ ((((w.alloc a).alloc b).alloc c).alloc d).heap[w.heap.size + 2]? = some c ∧ ((((w.alloc a).alloc b).alloc c).alloc d).heap[w.heap.size + 3]? = some d := by
  show ((((w.heap.push a).push b).push c).push d)[w.heap.size]? = _ ∧ ((((w.heap.push a).push b).push c).push d)[w.heap.size + 1]? = _ ∧ ((((w.heap.push a).push b).push c).push d)[w.heap.size + 2]? = _ ∧ ((((w.heap.push a).push b).push c).push d)[w.heap.size + 3]? = _
  refine ⟨?_, ?_, ?_, ?_⟩
  · rw [Array.getElem?_push, if_neg (by simp only [Array.size_push]; omega), Array.getElem?_push, if_neg (by simp only [Array.size_push]; omega), Array.getElem?_push, if_neg (by simp only [Array.size_push]; omega), Array.getElem?_push, if_pos rfl]
  · rw [Array.getElem?_push, if_neg (by simp only [Array.size_push]; omega), Array.getElem?_push, if_neg (by simp only [Array.size_push]; omega), Array.getElem?_push, if_pos (by simp only [Array.size_push])]
  · rw [Array.getElem?_push, if_neg (by simp only [Array.size_push]; omega), Array.getElem?_push, if_pos (by simp only [Array.size_push])]
  · rw [Array.getElem?_push, if_pos (by simp only [Array.size_push])]
theorem SkE.wayAt {w : World} {vN vH : Value} {s : Sk} {es : List (En × Value)} (h : SkE w vN vH s es) (a l : Nat) (ha : a ≤ s.nodes.length) (hl : l < (s.ways a).length) :
    ∃ b off cap, wayV vH es a = .slice (some ⟨b, off, none⟩) (s.ways a).length cap ∧ w.cell? ⟨b, off + l, none⟩ = some (.int .i64 (s.way a l)) := by
  obtain ⟨b, off, cap, n, e, hn, hc⟩ := (h.way a ha).at l hl
  refine ⟨b, off, cap, e, ?_⟩
  rw [Sk.way_get]
  simpa [List.getD, hn] using hc
theorem CutOn.ways {s : Sk} {o : List Nat} {x : En} {l a : Nat} (h : CutOn s o x l a) (h8 : s.head.length = 8) (hl : l < 8) : l < (s.ways a).length := by
  have := h.high h8 hl
  cases a with
  | zero => exact this.1 rfl
  | succ k => exact this.2 k rfl
def pOf (o : List Nat) (a : Int) : Nat := if a = 0 then 0 else o.idxOf (a - 1).toNat + 1
theorem pOf_le (o : List Nat) (k : Nat) (h : k ∈ o) : pOf o ((k : Int) + 1) ≤ o.length := by
  unfold pOf
  rw [if_neg (by omega)]
  have e : ((k : Int) + 1 - 1).toNat = k := by omega
  rw [e]
  exact List.idxOf_lt_length_of_mem h
theorem pOf_lt (o : List Nat) (a k : Nat) (h : a = 0 ∨ ∃ j, a = j + 1 ∧ o.idxOf j < o.idxOf k) : pOf o (a : Int) < pOf o ((k : Int) + 1) := by
  have e : ((k : Int) + 1 - 1).toNat = k := by omega
  unfold pOf
  rw [if_neg (show ¬ (k : Int) + 1 = 0 by omega), e]
  rcases h with rfl | ⟨j, rfl, hj⟩
  · simp
  · have e2 : (((j + 1 : Nat) : Int) - 1).toNat = j := by omega
    rw [if_neg (by omega), e2]
    omega
def AhB (w wr : World) (vN vH : Value) (x : En) (L : List Nat) : Prop :=
  Below w.heap.size w wr ∧ wr.heap[w.heap.size]? = some (.cells #[vN, vH] 39) ∧ wr.heap[w.heap.size + 1]? = some (enObj x) ∧ wr.heap[w.heap.size + 2]? = some (.cells (arrC [0, 0, 0, 0, 0, 0, 0, 0]) 89) ∧ wr.heap[w.heap.size + 3]? = some (.cells (arrC L) 89)
theorem AhB.up {w wr w' : World} {vN vH : Value} {x : En} {L : List Nat} (h : AhB w wr vN vH x L) (hb : Below wr.heap.size wr w') : AhB w w' vN vH x L :=
  ⟨up_trans h.1 hb, blk_up h.2.1 hb, blk_up h.2.2.1 hb, blk_up h.2.2.2.1 hb, blk_up h.2.2.2.2 hb⟩
theorem blk_at2 {w : World} {B C : Nat} {o : Obj} {a : Addr} {u : Value} (h : w.heap[B]? = some o) (hne : B ≠ a.block) : (w.setCell a u).heap[B]? = some o := (Below.heap_setCell w a u B hne).trans h
theorem AhB.set {w wr : World} {vN vH : Value} {x : En} {L : List Nat} (h : AhB w wr vN vH x L) (l a : Nat) : AhB w (wr.setCell ⟨w.heap.size + 3, l, none⟩ (natV a)) vN vH x (L.set l a) := by
  refine ⟨?_, ?_, ?_, ?_, ?_⟩
  · exact h.1.grown (grown_set wr _ _) h.1.size (fun k hk => by injection hk with hk; rw [← hk]; simp)
  · exact blk_at2 (C := 0) h.2.1 (by simp)
  · exact blk_at2 (C := 0) h.2.2.1 (by simp)
  · exact blk_at2 (C := 0) h.2.2.2.1 (by simp)
  · have := blk_set h.2.2.2.2 l (natV a)
    rw [arr_set] at this
    exact this
set_option maxHeartbeats 1000000 in
set_option maxRecDepth 100000 in
theorem ahead_any (s : Sk) (es : List (En × Value)) (vN vH : Value) (x : En) (o : List Nat) (w : World) (h : SkE w vN vH s es) (h8 : s.head.length = 8) (hL : Linked s o) (hS : Srt s.es o) (ho : ∀ k ∈ o, k < s.nodes.length) :
    Calls Tryz.prog 31 #[.agg #[vN, vH], enV x] w fun e w' => ∃ L : List Nat, e = .returned (.agg (arrC L)) ∧ Hid (L.length = 8 ∧ ∀ l, l < 8 → CutAt s o x l (L.getD l 0)) ∧ Hid (Below w.heap.size w w') := by
  obtain ⟨⟨aN, cN, rfl⟩, ⟨aH, cH, rfl⟩⟩ := h.form
  have h63 : (s.nodes.length : Int) ≤ 9223372036854775807 := by
    obtain ⟨_, _, e, h4, h5⟩ := h.nodes.len
    have := h.len
    unfold maxLen at h5
    omega
  have HV : Hid (SkE w (.slice aN s.nodes.length cN) (.slice aH s.head.length cH) s es) := h
  have HL : Hid (Linked s o) := hL
  have HS : Hid (Srt s.es o) := hS
  have HO : Hid (∀ k ∈ o, k < s.nodes.length) := ho
  have H8 : Hid (s.head.length = 8) := h8
  have hB0 : Hid (AhB w ((((w.alloc (.cells #[.slice aN s.nodes.length cN, .slice aH s.head.length cH] 39)).alloc (enObj x)).alloc (.cells #[.int .i64 0, .int .i64 0, .int .i64 0, .int .i64 0, .int .i64 0, .int .i64 0, .int .i64 0, .int .i64 0] 89)).alloc (.cells #[.int .i64 0, .int .i64 0, .int .i64 0, .int .i64 0, .int .i64 0, .int .i64 0, .int .i64 0, .int .i64 0] 89)) (.slice aN s.nodes.length cN) (.slice aH s.head.length cH) x [0, 0, 0, 0, 0, 0, 0, 0]) := by
    refine ⟨up_al (up_al (up_al (up_al (Below.refl _ _) _) _) _) _, ?_, ?_, ?_, ?_⟩
    · exact (blk4 w _ _ _ _).1
    · exact (blk4 w _ _ _ _).2.1
    · exact (blk4 w _ _ _ _).2.2.1
    · exact (blk4 w _ _ _ _).2.2.2
  clear h h8 hL hS ho
  unfold enV
  unfold enObj at hB0
  go_enter Tryz.func31, Tryz.ntmps31
  go_wp2_with fail
  go_loopw [6, 10] (fun p q wr => ∃ (a i : Nat) (L : List Nat), i ≤ 8 ∧ p = .int .i64 (a : Int) ∧ q = .int .i64 (i : Int) ∧ Hid (CutOn s o x (7 - i) a ∧ L.length = 8 ∧ ∀ l, l < 8 → 8 ≤ l + i → CutAt s o x l (L.getD l 0)) ∧ Hid (AhB w wr (.slice aN s.nodes.length cN) (.slice aH s.head.length cH) x L)) (fun _ q _ => 8 - (intOf q).toNat)
  case atStart => exact ⟨0, 0, _, by omega, rfl, rfl, ⟨CutOn.start _ _ _ _, rfl, fun l h1 h2 => by omega⟩, hB0⟩
  case round =>
    clear hB0
    obtain ⟨a, i, L, hi, rfl, rfl, HC, HB⟩ := hrel
    by_cases hlt : i < 8
    · have hlt' : (i : Int) < 8 := by omega
      obtain ⟨l, hl⟩ : ∃ l, l + i = 7 := ⟨7 - i, by omega⟩
      have el : (7 : Int) - (i : Int) = (l : Int) := by omega
      have HON : Hid (CutOn s o x l a) := by
        have := HC.out.1
        rw [show 7 - i = l by omega] at this
        exact this
      have HAB : Hid (a ≤ s.nodes.length) := HON.out.bound HO.out
      have p0 : wr.cell? ⟨w.heap.size, 0, none⟩ = some (.slice aN s.nodes.length cN) := blk_cell HB.out.2.1 0 _ rfl
      have p1 : wr.cell? ⟨w.heap.size, 1, none⟩ = some (.slice aH s.head.length cH) := blk_cell HB.out.2.1 1 _ rfl
      obtain ⟨wb, hwb⟩ : ∃ wb, wb = wr.alloc (.cells #[.slice aN s.nodes.length cN, .slice aH s.head.length cH] 39) := ⟨_, rfl⟩
      have HU : Hid (Below wr.heap.size wr wb) := by rw [hwb]; exact up_alloc _ _
      have HB1 : Hid (AhB w wb (.slice aN s.nodes.length cN) (.slice aH s.head.length cH) x L) := HB.out.up HU.out
      have HW := waysOf_any s es _ _ wr (HV.out.up HB.out.1) a HAB.out
      obtain ⟨bw, ow, cw, ew, cl⟩ := (HV.out.up HB1.out.1).wayAt a l HAB.out (HON.out.ways H8.out (by omega))
      have hlw : (l : Int) < ((s.ways a).length : Int) := by have := HON.out.ways H8.out (show l < 8 by omega); omega
      rw [ew, ← hwb] at HW
      have HWH : Hid (Calls Tryz.prog 56 #[.agg #[.slice aN s.nodes.length cN, .slice aH s.head.length cH], .int .i64 (a : Int)] wr fun e w' => e = .returned (.slice (some ⟨bw, ow, none⟩) (s.ways a).length cw) ∧ w' = wb) := HW
      have HCL : Hid (L.length = 8 ∧ ∀ l, l < 8 → 8 ≤ l + i → CutAt s o x l (L.getD l 0)) := HC.out.2
      generalize hLW : (s.ways a).length = LW at *
      generalize hWA : s.way a l = WA at *
      have HWA : Hid (s.way a l = WA) := hWA
      clear hwb HB HC HW ew hLW HU hWA
      go_wp2_with fail
      refine HWH.out.mono ?_
      rintro e w' ⟨rfl, rfl⟩
      clear HWH
      go_wp2_with fail
      go_loopw [6, 9] (fun p q wr' => ∃ (a' : Nat), p = .int .i64 (a' : Int) ∧ q = .int .i64 (s.way a' l) ∧ Hid (CutOn s o x l a') ∧ Hid (AhB w wr' (.slice aN s.nodes.length cN) (.slice aH s.head.length cH) x L)) (fun p _ _ => o.length + 1 - pOf o (intOf p))
      case atStart => exact ⟨a, rfl, by rw [HWA.out], HON, HB1⟩
      case round =>
        clear HON HB1 HWA p0 p1 cl hlw HAB
        obtain ⟨a', rfl, rfl, HON, HB⟩ := hrel
        have HAB : Hid (a' ≤ s.nodes.length) := HON.out.bound HO.out
        have hl8 : l < 8 := by omega
        have g2 : w.heap.size + 1 + 1 + 1 = w.heap.size + 3 := rfl
        by_cases hz : s.way a' l = 0
        · have HCA : Hid (CutAt s o x l a') := cut_stop (HL.out l hl8) HON.out hz
          have fz := blk_frozen HB.out.2.2.2.2 l
          obtain ⟨c0, hc0⟩ : ∃ c0, (arrC L)[l]? = some c0 := by
            have : l < (arrC L).size := by simp [arrC, HCL.out.1]; omega
            exact ⟨(arrC L)[l], by simp [this]⟩
          have cz : wr.cell? ⟨w.heap.size + 3, l, none⟩ = some c0 := blk_cell HB.out.2.2.2.2 l c0 hc0
          clear hc0
          rw [hz]
          go_wp2_with fail
          go_quiet (fail)
          go_wp2_with fail
          have HB2 := (HB.out.up (below_drewN (n := nq) (Below.refl _ _))).set l a'
          refine ⟨⟨a', i + 1, L.set l a', by omega, rfl, by go_num, ⟨HCA.out.on.lower (by omega), by rw [List.length_set]; exact HCL.out.1, fun l' h1 h2 => ?_⟩, HB2⟩, by simp [intOf]; omega⟩
          by_cases e : l' = l
          · subst e
            have : (L.set l' a').getD l' 0 = a' := by simp [List.getD, HCL.out.1, h1]
            rw [this]
            exact HCA.out
          · have : (L.set l a').getD l' 0 = L.getD l' 0 := by simp [List.getD, List.getElem?_set, Ne.symm e]
            rw [this]
            exact HCL.out.2 l' h1 (by omega)
        · obtain ⟨k, hko, hkw, hkh, hF, hT, hM⟩ := cut_step (HL.out l hl8) HS.out HON.out hz
          have hkn : k < s.nodes.length := HO.out k hko
          have hkn' : (k : Int) < (s.nodes.length : Int) := by omega
          obtain ⟨b, off, an, cn, rfl, _, hw, y0, y1, y2, y3, y4⟩ := (HV.out.up HB.out.1).node k hkn
          have p0 : wr.cell? ⟨w.heap.size, 0, none⟩ = some (.slice (some ⟨b, off, none⟩) s.nodes.length cN) := blk_cell HB.out.2.1 0 _ rfl
          have x0 : wr.cell? ⟨w.heap.size + 1, 0, none⟩ = some (.string x.key) := blk_cell HB.out.2.2.1 0 _ rfl
          have x1 : wr.cell? ⟨w.heap.size + 1, 1, none⟩ = some (.int .i64 x.seq) := blk_cell HB.out.2.2.1 1 _ rfl
          have x2 : wr.cell? ⟨w.heap.size + 1, 2, none⟩ = some (.int .i64 x.kind) := blk_cell HB.out.2.2.1 2 _ rfl
          have x3 : wr.cell? ⟨w.heap.size + 1, 3, none⟩ = some (.string x.val) := blk_cell HB.out.2.2.1 3 _ rfl
          have hz1 : ¬ (k : Int) + 1 = 0 := by omega
          have hz2 : ((k : Int) + 1 == 0) = false := by simp; omega
          have hz3 : ((k : Int) + 1 != 0) = true := by simp; omega
          have hwr1 : IntKind.i64.wrap (k : Int) = (k : Int) := by simp [IntKind.wrap, IntKind.bits, IntKind.signed]; omega
          have hwr2 : IntKind.i64.wrap ((k : Int) + 1 - 1) = (k : Int) := by rw [Int.add_sub_cancel]; exact hwr1
          have hk0 : 0 ≤ (k : Int) := by omega
          have hk1 : (k : Int) + 1 - 1 = (k : Int) := by omega
          rw [hkw]
          clear hz y4 hw
          have HF : Hid (beforeE (s.at' k).1 x = false → CutAt s o x l a') := hF
          have HT : Hid (beforeE (s.at' k).1 x = true → CutOn s o x l (k + 1)) := hT
          have HM : Hid (a' = 0 ∨ ∃ j, a' = j + 1 ∧ o.idxOf j < o.idxOf k) := hM
          have HKW : Hid (s.way a' l = (k : Int) + 1) := hkw
          have HKO : Hid (k ∈ o) := hko
          clear hF hT hM hkw hko
          generalize hy : (s.at' k).1 = y at *
          clear hy
          cases hb : beforeE y x
          · have HCA : Hid (CutAt s o x l a') := HF.out hb
            have HK : Hid (Calls Tryz.prog 33 #[.agg #[.string y.key, .int .i64 y.seq, .int .i64 y.kind, .string y.val], .agg #[.string x.key, .int .i64 x.seq, .int .i64 x.kind, .string x.val]] wr.drew fun e w' => e = .returned (.bool false) ∧ w'.cell? ⟨w.heap.size, 0, none⟩ = some (.slice (some ⟨b, off, none⟩) s.nodes.length cN) ∧ w'.cell? ⟨b, off + k * 5, none⟩ = some (.string y.key) ∧ w'.cell? ⟨b, off + k * 5 + 1, none⟩ = some (.int .i64 y.seq) ∧ w'.cell? ⟨b, off + k * 5 + 2, none⟩ = some (.int .i64 y.kind) ∧ w'.cell? ⟨b, off + k * 5 + 3, none⟩ = some (.string y.val) ∧ w'.cell? ⟨w.heap.size + 1, 0, none⟩ = some (.string x.key) ∧ w'.cell? ⟨w.heap.size + 1, 1, none⟩ = some (.int .i64 x.seq) ∧ w'.cell? ⟨w.heap.size + 1, 2, none⟩ = some (.int .i64 x.kind) ∧ w'.cell? ⟨w.heap.size + 1, 3, none⟩ = some (.string x.val) ∧ Hid (AhB w w' (.slice (some ⟨b, off, none⟩) s.nodes.length cN) (.slice aH s.head.length cH) x L)) := by
              have h := before_any y x wr.drew
              rw [hb] at h
              refine h.mono ?_
              rintro e w' ⟨rfl, rfl⟩
              have hb2 : Below wr.heap.size wr ((wr.drew.alloc (enObj y)).alloc (enObj x)) := up_al (up_al (up_dr (Below.refl _ _)) _) _
              have lt : ∀ {bb o : Nat} {q : Value}, wr.cell? ⟨bb, o, none⟩ = some q → ((wr.drew.alloc (enObj y)).alloc (enObj x)).cell? ⟨bb, o, none⟩ = some q := fun hq => (hb2.cell (World.block_lt_of_cell? wr _ hq)).trans hq
              exact ⟨rfl, lt p0, lt y0, lt y1, lt y2, lt y3, lt x0, lt x1, lt x2, lt x3, HB.out.up hb2⟩
            clear hb HB
            go_wp2_with fail
            go_region_held3 (fun w' => w'.cell? ⟨w.heap.size, 0, none⟩ = some (.slice (some ⟨b, off, none⟩) s.nodes.length cN) ∧ w'.cell? ⟨b, off + k * 5, none⟩ = some (.string y.key) ∧ w'.cell? ⟨b, off + k * 5 + 1, none⟩ = some (.int .i64 y.seq) ∧ w'.cell? ⟨b, off + k * 5 + 2, none⟩ = some (.int .i64 y.kind) ∧ w'.cell? ⟨b, off + k * 5 + 3, none⟩ = some (.string y.val) ∧ w'.cell? ⟨w.heap.size + 1, 0, none⟩ = some (.string x.key) ∧ w'.cell? ⟨w.heap.size + 1, 1, none⟩ = some (.int .i64 x.seq) ∧ w'.cell? ⟨w.heap.size + 1, 2, none⟩ = some (.int .i64 x.kind) ∧ w'.cell? ⟨w.heap.size + 1, 3, none⟩ = some (.string x.val)) (first | with_reducible exact ⟨q0, q1, q2, q3, q4, q5, q6, q7, q8⟩ | with_reducible exact ⟨p0, y0, y1, y2, y3, x0, x1, x2, x3⟩ | (simp [go_sem, p0, y0, y1, y2, y3, x0, x1, x2, x3]; done)) (first
              | (go_at_call 33; with_reducible refine HK.out.mono ?_; rintro e w' ⟨rfl, q0, q1, q2, q3, q4, q5, q6, q7, q8, hb⟩))
            all_goals
              have fz := blk_frozen hb.out.2.2.2.2 l
              obtain ⟨c0, hc0⟩ : ∃ c0, (arrC L)[l]? = some c0 := by
                have : l < (arrC L).size := by simp [arrC, HCL.out.1]; omega
                exact ⟨(arrC L)[l], by simp [this]⟩
              have cz : w'.cell? ⟨w.heap.size + 3, l, none⟩ = some c0 := blk_cell hb.out.2.2.2.2 l c0 hc0
              clear hc0
              go_wp2_with fail
              have HB2 := (hb.out).set l a'
              refine ⟨⟨a', i + 1, L.set l a', by omega, rfl, by go_num, ⟨HCA.out.on.lower (by omega), by rw [List.length_set]; exact HCL.out.1, fun l' h1 h2 => ?_⟩, HB2⟩, by simp [intOf]; omega⟩
              by_cases e : l' = l
              · subst e
                have : (L.set l' a').getD l' 0 = a' := by simp [List.getD, HCL.out.1, h1]
                rw [this]
                exact HCA.out
              · have : (L.set l a').getD l' 0 = L.getD l' 0 := by simp [List.getD, List.getElem?_set, Ne.symm e]
                rw [this]
                exact HCL.out.2 l' h1 (by omega)
          · have HCN : Hid (CutOn s o x l (k + 1)) := HT.out hb
            have HK : Hid (Calls Tryz.prog 33 #[.agg #[.string y.key, .int .i64 y.seq, .int .i64 y.kind, .string y.val], .agg #[.string x.key, .int .i64 x.seq, .int .i64 x.kind, .string x.val]] wr.drew fun e w' => e = .returned (.bool true) ∧ w'.cell? ⟨w.heap.size, 0, none⟩ = some (.slice (some ⟨b, off, none⟩) s.nodes.length cN) ∧ w'.cell? ⟨b, off + k * 5, none⟩ = some (.string y.key) ∧ w'.cell? ⟨b, off + k * 5 + 1, none⟩ = some (.int .i64 y.seq) ∧ w'.cell? ⟨b, off + k * 5 + 2, none⟩ = some (.int .i64 y.kind) ∧ w'.cell? ⟨b, off + k * 5 + 3, none⟩ = some (.string y.val) ∧ w'.cell? ⟨w.heap.size + 1, 0, none⟩ = some (.string x.key) ∧ w'.cell? ⟨w.heap.size + 1, 1, none⟩ = some (.int .i64 x.seq) ∧ w'.cell? ⟨w.heap.size + 1, 2, none⟩ = some (.int .i64 x.kind) ∧ w'.cell? ⟨w.heap.size + 1, 3, none⟩ = some (.string x.val) ∧ Hid (AhB w w' (.slice (some ⟨b, off, none⟩) s.nodes.length cN) (.slice aH s.head.length cH) x L)) := by
              have h := before_any y x wr.drew
              rw [hb] at h
              refine h.mono ?_
              rintro e w' ⟨rfl, rfl⟩
              have hb2 : Below wr.heap.size wr ((wr.drew.alloc (enObj y)).alloc (enObj x)) := up_al (up_al (up_dr (Below.refl _ _)) _) _
              have lt : ∀ {bb o : Nat} {q : Value}, wr.cell? ⟨bb, o, none⟩ = some q → ((wr.drew.alloc (enObj y)).alloc (enObj x)).cell? ⟨bb, o, none⟩ = some q := fun hq => (hb2.cell (World.block_lt_of_cell? wr _ hq)).trans hq
              exact ⟨rfl, lt p0, lt y0, lt y1, lt y2, lt y3, lt x0, lt x1, lt x2, lt x3, HB.out.up hb2⟩
            clear hb HB
            go_wp2_with fail
            go_region_held3 (fun w' => w'.cell? ⟨w.heap.size, 0, none⟩ = some (.slice (some ⟨b, off, none⟩) s.nodes.length cN) ∧ w'.cell? ⟨b, off + k * 5, none⟩ = some (.string y.key) ∧ w'.cell? ⟨b, off + k * 5 + 1, none⟩ = some (.int .i64 y.seq) ∧ w'.cell? ⟨b, off + k * 5 + 2, none⟩ = some (.int .i64 y.kind) ∧ w'.cell? ⟨b, off + k * 5 + 3, none⟩ = some (.string y.val) ∧ w'.cell? ⟨w.heap.size + 1, 0, none⟩ = some (.string x.key) ∧ w'.cell? ⟨w.heap.size + 1, 1, none⟩ = some (.int .i64 x.seq) ∧ w'.cell? ⟨w.heap.size + 1, 2, none⟩ = some (.int .i64 x.kind) ∧ w'.cell? ⟨w.heap.size + 1, 3, none⟩ = some (.string x.val)) (first | with_reducible exact ⟨q0, q1, q2, q3, q4, q5, q6, q7, q8⟩ | with_reducible exact ⟨p0, y0, y1, y2, y3, x0, x1, x2, x3⟩ | (simp [go_sem, p0, y0, y1, y2, y3, x0, x1, x2, x3]; done)) (first
              | (go_at_call 33; with_reducible refine HK.out.mono ?_; rintro e w' ⟨rfl, q0, q1, q2, q3, q4, q5, q6, q7, q8, hb⟩))
            all_goals
              have P0 : w'.cell? ⟨w.heap.size, 0, none⟩ = some (.slice (some ⟨b, off, none⟩) s.nodes.length cN) := blk_cell hb.out.2.1 0 _ rfl
              have P1 : w'.cell? ⟨w.heap.size, 1, none⟩ = some (.slice aH s.head.length cH) := blk_cell hb.out.2.1 1 _ rfl
              obtain ⟨wb, hwb⟩ : ∃ wb, wb = w'.alloc (.cells #[.slice (some ⟨b, off, none⟩) s.nodes.length cN, .slice aH s.head.length cH] 39) := ⟨_, rfl⟩
              have HU : Hid (Below w'.heap.size w' wb) := by rw [hwb]; exact up_alloc _ _
              have HB1 : Hid (AhB w wb (.slice (some ⟨b, off, none⟩) s.nodes.length cN) (.slice aH s.head.length cH) x L) := hb.out.up HU.out
              have HW := waysOf_any s es _ _ w' (HV.out.up hb.out.1) (k + 1) (by omega)
              obtain ⟨bw, ow, cw, ew, cl⟩ := (HV.out.up HB1.out.1).wayAt (k + 1) l (by omega) (HCN.out.ways H8.out hl8)
              have hlw : (l : Int) < ((s.ways (k + 1)).length : Int) := by have := HCN.out.ways H8.out hl8; omega
              rw [ew, ← hwb, show (((k + 1 : Nat)) : Int) = (k : Int) + 1 by omega] at HW
              have HWH : Hid (Calls Tryz.prog 56 #[.agg #[.slice (some ⟨b, off, none⟩) s.nodes.length cN, .slice aH s.head.length cH], .int .i64 ((k : Int) + 1)] w' fun e w2 => e = .returned (.slice (some ⟨bw, ow, none⟩) (s.ways (k + 1)).length cw) ∧ w2 = wb) := HW
              generalize hLW2 : (s.ways (k + 1)).length = LW2 at *
              generalize hWA2 : s.way (k + 1) l = WA2 at *
              have HWA2 : Hid (s.way (k + 1) l = WA2) := hWA2
              clear hwb HW ew hLW2 HU hWA2
              go_wp2_with fail
              refine HWH.out.mono ?_
              rintro e w2 ⟨rfl, rfl⟩
              clear HWH
              go_wp2_with fail
              refine ⟨⟨k + 1, by go_num, by rw [HWA2.out], HCN, HB1⟩, ?_⟩
              have m1 := pOf_lt o a' k HM.out
              have m2 := pOf_le o k HKO.out
              simp only [intOf]
              omega
    · obtain rfl : i = 8 := by omega
      obtain ⟨a0, a1, a2, a3, a4, a5, a6, a7, rfl⟩ := eight L HC.out.2.1
      have q0 : wr.cell? ⟨w.heap.size + 3, 0, none⟩ = some (.int .i64 (a0 : Int)) := blk_cell HB.out.2.2.2.2 0 _ rfl
      have q1 : wr.cell? ⟨w.heap.size + 3, 1, none⟩ = some (.int .i64 (a1 : Int)) := blk_cell HB.out.2.2.2.2 1 _ rfl
      have q2 : wr.cell? ⟨w.heap.size + 3, 2, none⟩ = some (.int .i64 (a2 : Int)) := blk_cell HB.out.2.2.2.2 2 _ rfl
      have q3 : wr.cell? ⟨w.heap.size + 3, 3, none⟩ = some (.int .i64 (a3 : Int)) := blk_cell HB.out.2.2.2.2 3 _ rfl
      have q4 : wr.cell? ⟨w.heap.size + 3, 4, none⟩ = some (.int .i64 (a4 : Int)) := blk_cell HB.out.2.2.2.2 4 _ rfl
      have q5 : wr.cell? ⟨w.heap.size + 3, 5, none⟩ = some (.int .i64 (a5 : Int)) := blk_cell HB.out.2.2.2.2 5 _ rfl
      have q6 : wr.cell? ⟨w.heap.size + 3, 6, none⟩ = some (.int .i64 (a6 : Int)) := blk_cell HB.out.2.2.2.2 6 _ rfl
      have q7 : wr.cell? ⟨w.heap.size + 3, 7, none⟩ = some (.int .i64 (a7 : Int)) := blk_cell HB.out.2.2.2.2 7 _ rfl
      have r0 : wr.cell? ⟨w.heap.size + 2, 0, none⟩ = some (.int .i64 0) := blk_cell HB.out.2.2.2.1 0 _ rfl
      have r1 : wr.cell? ⟨w.heap.size + 2, 1, none⟩ = some (.int .i64 0) := blk_cell HB.out.2.2.2.1 1 _ rfl
      have r2 : wr.cell? ⟨w.heap.size + 2, 2, none⟩ = some (.int .i64 0) := blk_cell HB.out.2.2.2.1 2 _ rfl
      have r3 : wr.cell? ⟨w.heap.size + 2, 3, none⟩ = some (.int .i64 0) := blk_cell HB.out.2.2.2.1 3 _ rfl
      have r4 : wr.cell? ⟨w.heap.size + 2, 4, none⟩ = some (.int .i64 0) := blk_cell HB.out.2.2.2.1 4 _ rfl
      have r5 : wr.cell? ⟨w.heap.size + 2, 5, none⟩ = some (.int .i64 0) := blk_cell HB.out.2.2.2.1 5 _ rfl
      have r6 : wr.cell? ⟨w.heap.size + 2, 6, none⟩ = some (.int .i64 0) := blk_cell HB.out.2.2.2.1 6 _ rfl
      have r7 : wr.cell? ⟨w.heap.size + 2, 7, none⟩ = some (.int .i64 0) := blk_cell HB.out.2.2.2.1 7 _ rfl
      have f0 := fun k => blk_frozen HB.out.2.2.2.1 k
      have B2 : Hid (wr.heap[w.heap.size + 2]? = some (.cells #[.int .i64 0, .int .i64 0, .int .i64 0, .int .i64 0, .int .i64 0, .int .i64 0, .int .i64 0, .int .i64 0] 89)) := HB.out.2.2.2.1
      go_wp2_with fail
      refine bodyPost_ret (results_arr rfl _ _ rfl (set8_blk B2.out (.int .i64 (a0 : Int)) (.int .i64 (a1 : Int)) (.int .i64 (a2 : Int)) (.int .i64 (a3 : Int)) (.int .i64 (a4 : Int)) (.int .i64 (a5 : Int)) (.int .i64 (a6 : Int)) (.int .i64 (a7 : Int)))) rfl ?_
      refine ⟨[a0, a1, a2, a3, a4, a5, a6, a7], rfl, ⟨rfl, fun l hl => HC.out.2.2 l hl (by omega)⟩, ?_⟩
      exact HB.out.1.grown (set8_grown wr (w.heap.size + 2) _ _ _ _ _ _ _ _) HB.out.1.size (fun k hk => by injection hk with hk; rw [← hk]; omega)
end Go.Proofs.YthiegmhplnbdlaaGreat

namespace Go.Proofs.YthiegmhplnbdlaaGreat
open Go.RowKit
set_option linter.unusedVariables false
set_option linter.unusedSimpArgs false
def arrI (L : List Int) : Array Value := (L.map (Value.int .i64)).toArray
theorem arrI_set (L : List Int) (l : Nat) (a : Int) : (arrI L).setIfInBounds l (.int .i64 a) = arrI (L.set l a) := by
  simp [arrI, List.map_set]
theorem arrI_get (L : List Int) (l : Nat) (h : l < L.length) : (arrI L)[l]? = some (.int .i64 (L.getD l 0)) := by
  simp [arrI, List.getD, h]
theorem part_i64 (w : World) (xs : Array Value) (j : Nat) (v : Value) (h : xs[j]? = some v) : (part 3 xs j).run Tryz.prog w = .ok v w := run_part_plain w (by kernel_rfl) h
theorem cells_i64 : Tryz.prog.cellsOf 3 = 1 := by kernel_rfl
theorem eqItems_ints (L M : List Int) (w : World) : ∀ is : List Nat, (∀ j ∈ is, j < L.length ∧ j < M.length) → (Op.eqItems 9999 3 1 (arrI L) (arrI M) is).run Tryz.prog w = .ok (is.all (fun j => L.getD j 0 == M.getD j 0)) w
  | [], _ => by simp [Op.eqItems]
  | j :: is, H => by
    have hj := H j (by simp)
    have p := part_i64 w (arrI L) j _ (arrI_get L j hj.1)
    have q := part_i64 w (arrI M) j _ (arrI_get M j hj.2)
    have e := run_equalIn_int w 9998 3 .i64 .i64 (L.getD j 0) (M.getD j 0) Tryz.underlying3
    have ih := eqItems_ints L M w is (fun i hi => H i (by simp [hi]))
    simp only [Op.eqItems, Sem.run_bind, Nat.mul_one, p, q, e, Result.andThen_ok]
    rw [List.all_cons]
    cases c : (L.getD j 0 == M.getD j 0)
    · simp only [Bool.not_false, if_true, Bool.false_and]
      rfl
    · simp only [Bool.not_true, Bool.false_eq_true, if_false, Bool.true_and]
      exact ih
set_option maxRecDepth 20000 in
theorem eq_eight (L M : List Int) (h1 : L.length = 8) (h2 : M.length = 8) (w : World) :
    (Op.equalIn 10000 89 (.agg (arrI L)) (.agg (arrI M))).run Tryz.prog w = .ok (decide (L = M)) w := by
  obtain ⟨i0, hi, _⟩ := info_some Tryz.info3
  have e := run_equalIn_array w 9999 (arrI L) (arrI M) Tryz.underlying89 hi
  refine e.trans ?_
  rw [cells_i64, eqItems_ints L M w _ (fun j hj => by simp at hj; omega)]
  congr 1
  rw [Bool.eq_iff_iff]
  simp only [List.all_eq_true, decide_eq_true_eq, List.mem_range, beq_iff_eq]
  constructor
  · intro h
    refine List.ext_getElem (by omega) (fun i a b => ?_)
    have := h i (by omega)
    simpa [List.getD, a, b] using this
  · rintro rfl j _
    rfl
end Go.Proofs.YthiegmhplnbdlaaGreat

namespace Go.Proofs.YthiegmhplnbdlaaGreat
open Go.RowKit
set_option linter.unusedVariables false
set_option linter.unusedSimpArgs false
def zeroC (h : Nat) : Array Value := arrI (List.replicate h 0)
theorem mk_ints (h : Nat) (hh : h ≤ 8) (w : World) : (Instr.makeSlice 37 (.int .i64 (h : Int)) (.int .i64 (h : Int))).run Tryz.prog w = .ok (.slice (some ⟨w.heap.size, 0, none⟩) h h) (w.alloc (.cells (zeroC h) 3)) := by
  have q0 : (Instr.makeSlice 37 (.int .i64 0) (.int .i64 0)).run Tryz.prog w = .ok (.slice (some ⟨w.heap.size, 0, none⟩) 0 0) (w.alloc (.cells #[] 3)) := by kernel_rfl
  have q1 : (Instr.makeSlice 37 (.int .i64 1) (.int .i64 1)).run Tryz.prog w = .ok (.slice (some ⟨w.heap.size, 0, none⟩) 1 1) (w.alloc (.cells #[.int .i64 0] 3)) := by kernel_rfl
  have q2 : (Instr.makeSlice 37 (.int .i64 2) (.int .i64 2)).run Tryz.prog w = .ok (.slice (some ⟨w.heap.size, 0, none⟩) 2 2) (w.alloc (.cells #[.int .i64 0, .int .i64 0] 3)) := by kernel_rfl
  have q3 : (Instr.makeSlice 37 (.int .i64 3) (.int .i64 3)).run Tryz.prog w = .ok (.slice (some ⟨w.heap.size, 0, none⟩) 3 3) (w.alloc (.cells #[.int .i64 0, .int .i64 0, .int .i64 0] 3)) := by kernel_rfl
  have q4 : (Instr.makeSlice 37 (.int .i64 4) (.int .i64 4)).run Tryz.prog w = .ok (.slice (some ⟨w.heap.size, 0, none⟩) 4 4) (w.alloc (.cells #[.int .i64 0, .int .i64 0, .int .i64 0, .int .i64 0] 3)) := by kernel_rfl
  have q5 : (Instr.makeSlice 37 (.int .i64 5) (.int .i64 5)).run Tryz.prog w = .ok (.slice (some ⟨w.heap.size, 0, none⟩) 5 5) (w.alloc (.cells #[.int .i64 0, .int .i64 0, .int .i64 0, .int .i64 0, .int .i64 0] 3)) := by kernel_rfl
  have q6 : (Instr.makeSlice 37 (.int .i64 6) (.int .i64 6)).run Tryz.prog w = .ok (.slice (some ⟨w.heap.size, 0, none⟩) 6 6) (w.alloc (.cells #[.int .i64 0, .int .i64 0, .int .i64 0, .int .i64 0, .int .i64 0, .int .i64 0] 3)) := by kernel_rfl
  have q7 : (Instr.makeSlice 37 (.int .i64 7) (.int .i64 7)).run Tryz.prog w = .ok (.slice (some ⟨w.heap.size, 0, none⟩) 7 7) (w.alloc (.cells #[.int .i64 0, .int .i64 0, .int .i64 0, .int .i64 0, .int .i64 0, .int .i64 0, .int .i64 0] 3)) := by kernel_rfl
  have q8 : (Instr.makeSlice 37 (.int .i64 8) (.int .i64 8)).run Tryz.prog w = .ok (.slice (some ⟨w.heap.size, 0, none⟩) 8 8) (w.alloc (.cells #[.int .i64 0, .int .i64 0, .int .i64 0, .int .i64 0, .int .i64 0, .int .i64 0, .int .i64 0, .int .i64 0] 3)) := by kernel_rfl
  have : h = 0 ∨ h = 1 ∨ h = 2 ∨ h = 3 ∨ h = 4 ∨ h = 5 ∨ h = 6 ∨ h = 7 ∨ h = 8 := by omega
  rcases this with rfl | rfl | rfl | rfl | rfl | rfl | rfl | rfl | rfl
  · exact q0
  · exact q1
  · exact q2
  · exact q3
  · exact q4
  · exact q5
  · exact q6
  · exact q7
  · exact q8
theorem flat_irow : ∀ l : List Int, (l.map irow).flatten = l.map (Value.int .i64)
  | [] => rfl
  | x :: l => by simp [irow, flat_irow l]
theorem own_made (w : World) (h : Nat) (hh : h ≤ 8) : OwnR (w.alloc (.cells (zeroC h) 3)) w.heap.size 3 1 (.slice (some ⟨w.heap.size, 0, none⟩) h h) ((List.replicate h (0 : Int)).map irow) := by
  refine ⟨fun cs hc => by obtain ⟨n, _, rfl⟩ := List.mem_map.1 hc; rfl, ?_⟩
  have := World.ownsRow_lit (base := w.heap.size) (e := 3) (size := 1) w (zeroC h) h (Nat.le_refl _) (by unfold maxLen; omega) (by simp [zeroC, arrI])
  rw [flat_irow, List.length_map, List.length_replicate]
  have e : (zeroC h).toList = (List.replicate h (0 : Int)).map (Value.int .i64) := by simp [zeroC, arrI]
  rw [e] at this
  exact this
def emptyS : Sk := ⟨[], List.replicate 8 0⟩
theorem emptyS_good : Good emptyS := by
  refine ⟨by simp [emptyS], by simp [emptyS], (fun k hk => by simp [emptyS] at hk), (fun k hk => by simp [emptyS] at hk), (fun i j hi => by simp [emptyS, Sk.es] at hi), fun l hl => ?_⟩
  show chainOK _ _ l [] _
  unfold chainOK
  show (List.replicate 8 (0 : Int)).getD l 0 = 0
  exact rep_get l
set_option maxRecDepth 100000 in
theorem new_any (w : World) : Calls Tryz.prog 8 #[] w fun e w' => ∃ a c a2 c2, e = .returned (.agg #[.slice a 0 c, .slice a2 8 c2]) ∧ Hid (OwnSk w' w.heap.size 124 (.slice a 0 c) (.slice a2 8 c2) emptyS []) ∧ Hid (Below w.heap.size w w') := by
  have hmk := mk_ints 8 (by omega)
  have hmk' : ∀ w : World, (Instr.makeSlice 37 (.int .i64 8) (.int .i64 8)).run Tryz.prog w = .ok (.slice (some ⟨w.heap.size, 0, none⟩) 8 8) (w.alloc (.cells (zeroC 8) 3)) := hmk
  clear hmk
  have HO : Hid (OwnR ((w.alloc (.cells #[.slice none 0 0, .slice (some ⟨w.heap.size + 1, 0, none⟩) 8 8] 39)).alloc (.cells (zeroC 8) 3)) w.heap.size 3 1 (.slice (some ⟨w.heap.size + 1, 0, none⟩) 8 8) ((List.replicate 8 (0 : Int)).map irow)) := by
    have := own_made (w.alloc (.cells #[.slice none 0 0, .slice (some ⟨w.heap.size + 1, 0, none⟩) 8 8] 39)) 8 (by omega)
    have e : (w.alloc (.cells #[.slice none 0 0, .slice (some ⟨w.heap.size + 1, 0, none⟩) 8 8] 39)).heap.size = w.heap.size + 1 := by simp
    rw [e] at this
    exact this.mono (by omega)
  go_enter Tryz.func8, Tryz.ntmps8
  go_wp2_with fail
  refine bodyPost_ret (results_st rfl (.inl rfl) _ _ rfl (blk_up (blk_new w _) (up_alloc _ _))) rfl ?_
  refine ⟨_, _, _, _, rfl, ⟨rfl, OwnR.nil _ _ _ _, HO.out, (fun k p hk => by simp at hk), by simp⟩, up_al (up_al (Below.refl _ _) _) _⟩
end Go.Proofs.YthiegmhplnbdlaaGreat
