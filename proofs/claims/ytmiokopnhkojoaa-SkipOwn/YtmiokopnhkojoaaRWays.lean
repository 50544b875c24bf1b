/- The document's ways. -/
import Derived.Test.YtmiokopnhkojoaaPCop
import Derived.Test.YtmiokopnhkojoaaPMake
import Derived.Test.YtmiokopnhkojoaaMWays
import Derived.Deep.RegionHeld3
import Derived.Deep.CutRange
namespace Go.Proofs.Ytmiokopnhkojoaa
open Go.RowKit
set_option linter.unusedVariables false
set_option linter.unusedSimpArgs false

/-- Nodes of these versions and heights, without ways. -/
def bareN (es : List (En × Value)) (hs : List Nat) : List (En × List Int) := List.zipWith (fun p h => (p.1, List.replicate h (0 : Int))) es hs
def bareS (es : List (En × Value)) (hs : List Nat) : Sk := ⟨bareN es hs, List.replicate 8 0⟩
theorem bare_len (es : List (En × Value)) (hs : List Nat) (h : hs.length = es.length) : (bareS es hs).nodes.length = es.length := by
  simp [bareS, bareN, h]
theorem bare_at (es : List (En × Value)) (hs : List Nat) (h : hs.length = es.length) (i : Nat) (hi : i < es.length) : (bareS es hs).at' i = (es[i].1, List.replicate (hs[i]'(by omega)) 0) := by
  have hi2 : i < hs.length := by omega
  simp [Sk.at', bareS, bareN, List.getD, List.getElem?_zipWith, hi, hi2]
theorem bare_es (es : List (En × Value)) (hs : List Nat) (h : hs.length = es.length) : (bareS es hs).es = es.map (·.1) := by
  refine List.ext_getElem (by simp [Sk.es, bare_len es hs h]) (fun i h1 h2 => ?_)
  simp [Sk.es, bareS, bareN]
theorem bare_hs (es : List (En × Value)) (hs : List Nat) (h : hs.length = es.length) : (bareS es hs).hs = hs := by
  refine List.ext_getElem (by simp [Sk.hs, bare_len es hs h, h]) (fun i h1 h2 => ?_)
  simp [Sk.hs, bareS, bareN]
theorem rep_getD (n l : Nat) : (List.replicate n (0 : Int)).getD l 0 = 0 := by
  simp only [List.getD, List.getElem?_replicate]
  split <;> rfl
theorem bare_zero (es : List (En × Value)) (hs : List Nat) (h : hs.length = es.length) : ∀ l, (bareS es hs).hd l = 0 ∧ ∀ k, (bareS es hs).nx k l = 0 := by
  intro l
  refine ⟨rep_getD 8 l, fun k => ?_⟩
  unfold Sk.nx
  by_cases q : k < es.length
  · rw [bare_at es hs h k q]
    exact rep_getD _ l
  · have : (bareS es hs).at' k = default := by
      have := bare_len es hs h
      simp [Sk.at', List.getD, this, q]
    rw [this]
    rfl
def castI (n : Nat) : Int := (n : Int)
/-- The state and its box during ways. -/
def WyB (w wr : World) (T : Nat) (aN : Option Addr) (n cN : Nat) (aG : Option Addr) (cG : Nat) (s : Sk) (es' : List (En × Value)) : Prop :=
  OpenK wr (w.heap.size + 1) T 65 25 (.slice aN n cN) (.slice aG 8 cG) s es' ∧ Below w.heap.size w wr ∧ wr.heap[w.heap.size]? = some (.cells #[.slice none 0 0, .slice none 0 0] 25)

theorem OwnR.block_type2 {w : World} {base : Nat} {t : TypeId} {vN vH : Value} {s : Sk} {es : List (En × Value)} (h : OwnSk w base t vN vH s es) {a g n cap : Nat} (e : wayV vH es a = .slice (some ⟨g, 0, none⟩) n cap) (ha : a ≤ s.nodes.length) : ∃ cs fr, w.heap[g]? = some (.cells cs 3 fr) := by
  have hO : OwnR w base 3 1 (wayV vH es a) ((s.ways a).map irow) := by
    cases a with
    | zero => exact h.head
    | succ k =>
      have hk : k < es.length := by rw [h.read.len]; omega
      have := h.nexts k es[k] (by simp [hk])
      simp only [wayV, List.getD]
      simpa [hk, Sk.ways] using this
  rw [e] at hO
  rcases hO.2.2 with ⟨q, _⟩ | ⟨g', cap', cur, q, _, hh, _⟩
  · simp at q
  · simp only [Value.slice.injEq, Option.some.injEq, Addr.mk.injEq] at q
    obtain ⟨⟨rfl, _⟩, _⟩ := q
    exact ⟨_, _, hh⟩
set_option maxHeartbeats 4000000 in
set_option maxRecDepth 100000 in
theorem refWays_any (es : List (En × Value)) (hs : List Nat) (al : Option Addr) (cl : Nat) (ah : Option Addr) (ch : Nat) (w : World) (hv : NodesE w (.slice al es.length cl) es) (hh : IntsR w (.slice ah es.length ch) (hs.map castI)) (hl : hs.length = es.length) (hn : es.length ≤ 4096) (h8 : ∀ h ∈ hs, h ≤ 8) (ho : Ones (es.map (·.1))) :
    Calls Try.prog 33 #[.slice al es.length cl, .slice ah es.length ch] w fun e w' => ∃ vN vH, e = .returned (.agg #[vN, vH]) ∧ (∃ s es', Hid (OwnSk w' w.heap.size 65 vN vH s es' ∧ s.es = es.map (·.1) ∧ s.hs = hs ∧ s.head.length = 8 ∧ Linked s (orderF (es.map (·.1)) es.length))) ∧ Hid (Below w.heap.size w w') := by
  have HV : Hid (NodesE w (.slice al es.length cl) es) := hv
  have HH : Hid (IntsR w (.slice ah es.length ch) (hs.map castI)) := hh
  have HL : Hid (hs.length = es.length) := hl
  have H8 : Hid (∀ h ∈ hs, h ≤ 8) := h8
  have HON : Hid (Ones (es.map (·.1))) := ho
  clear hv hh hl h8 ho
  have HNW := refNew_any (w.alloc (.cells #[.slice none 0 0, .slice none 0 0] 25))
  have HB0 : Hid (Below w.heap.size w (w.alloc (.cells #[.slice none 0 0, .slice none 0 0] 25)) ∧ (w.alloc (.cells #[.slice none 0 0, .slice none 0 0] 25)).heap[w.heap.size]? = some (.cells #[.slice none 0 0, .slice none 0 0] 25) ∧ (w.alloc (.cells #[.slice none 0 0, .slice none 0 0] 25)).heap.size = w.heap.size + 1) := ⟨up_alloc _ _, blk_new _ _, by simp⟩
  go_enter Try.func33, Try.ntmps33
  go_wp2_with fail
  refine HNW.mono ?_
  rintro e w1 ⟨a1, c1, aG, cG, rfl, O1, U1⟩
  obtain ⟨wt, hwt⟩ : ∃ wt, wt = w1.alloc (.cells #[.slice a1 0 c1, .slice aG 8 cG] 25) := ⟨_, rfl⟩
  have HWT : Hid (w1.alloc (.cells #[.slice a1 0 c1, .slice aG 8 cG] 25) = wt) := hwt.symm
  have HST : Hid (WyB w wt w1.heap.size a1 0 c1 aG cG ⟨(bareS es hs).nodes.take 0, (bareS es hs).head⟩ [] ∧ w.heap.size + 1 ≤ w1.heap.size) := by
    have ut : Below w1.heap.size w1 wt := by rw [hwt]; exact up_alloc _ _
    have sz := U1.out.size
    rw [HB0.out.2.2] at sz
    refine ⟨⟨⟨by rw [hwt]; exact blk_new _ _, ?_⟩, up_trans HB0.out.1 (up_trans U1.out ut), blk_up (blk_up HB0.out.2.1 U1.out) ut⟩, sz⟩
    have := O1.out.up ut
    rw [HB0.out.2.2] at this
    exact this
  clear hwt HNW HB0 O1 U1
  go_wp2_with fail
  rw [HWT.out]
  clear HWT
  generalize hT : w1.heap.size = T at *
  clear hT
  have HTS : Hid (w.heap.size + 1 ≤ T) := HST.out.2
  go_loopw [6] (fun q wr => ∃ (i : Nat) (an' : Option Addr) (cn' : Nat) (es' : List (En × Value)), i ≤ es.length ∧ q = .int .i64 (i : Int) ∧ Hid (WyB w wr T an' i cn' aG cG ⟨(bareS es hs).nodes.take i, (bareS es hs).head⟩ es')) (fun q _ => es.length - (intOf q).toNat)
  case atStart => exact ⟨0, a1, c1, [], by omega, rfl, HST.out.1⟩
  case round =>
    clear HST
    obtain ⟨i, an', cn', es', hi, rfl, HO⟩ := hrel
    by_cases hlt : i < es.length
    · have hlt' : (i : Int) < (es.length : Int) := by omega
      have hi0 : 0 ≤ (i : Int) := by omega
      have hts : i < (bareS es hs).nodes.length := by rw [bare_len es hs HL.out]; exact hlt
      have HTK : Hid ((⟨(bareS es hs).nodes.take (i + 1), (bareS es hs).head⟩ : Sk) = (⟨(bareS es hs).nodes.take i, (bareS es hs).head⟩ : Sk).snoc ((bareS es hs).at' i).1 ((bareS es hs).at' i).2) := take_at (bareS es hs) i hts
      have lft : ∀ {bb : Addr} {q : Value}, w.cell? bb = some q → wr.cell? bb = some q := fun hq => (HO.out.2.1.cell (World.block_lt_of_cell? w _ hq)).trans hq
      obtain ⟨b, off, cap, y, sy, e, hy, Y0, Y1, Y2, Y3, _⟩ := HV.out.at i hlt
      simp only [Value.slice.injEq] at e
      obtain ⟨rfl, hx_, rfl⟩ := e
      clear hx_
      obtain ⟨bh, oh, cph, nh, e, hnh, CH0⟩ := HH.out.at i (by rw [List.length_map, HL.out]; exact hlt)
      simp only [Value.slice.injEq] at e
      obtain ⟨rfl, hx_, rfl⟩ := e
      clear hx_
      have y0 := lft Y0
      have y1 := lft Y1
      have y2 := lft Y2
      have y3 := lft Y3
      have ch0 := lft CH0
      have nT : ¬ T = b := by have h2 := World.block_lt_of_cell? w _ Y0; have := HTS.out; simp only at h2; omega
      have nT2 : ¬ b = T := fun q => nT q.symm
      have nT3 : ¬ T = bh := by have h2 := World.block_lt_of_cell? w _ CH0; have := HTS.out; simp only at h2; omega
      have nT4 : ¬ bh = T := fun q => nT3 q.symm
      clear lft Y0 Y1 Y2 Y3 CH0
      obtain ⟨HK, hHK⟩ : ∃ HK : Nat, hs[i]? = some HK := ⟨hs[i]'(by rw [HL.out]; exact hlt), by simp [HL.out, hlt]⟩
      obtain rfl : nh = (HK : Int) := by
        rw [List.getElem?_map, hHK] at hnh
        simp only [Option.map_some, Option.some.injEq, castI] at hnh
        exact hnh.symm
      have HAT : Hid ((bareS es hs).at' i = (y, List.replicate HK 0)) := by
        unfold Hid
        rw [bare_at es hs HL.out i hlt]
        have e1 : es[i] = (y, sy) := (List.getElem?_eq_some_iff.1 hy).2
        have e2 : hs[i]'(by rw [HL.out]; exact hlt) = HK := (List.getElem?_eq_some_iff.1 hHK).2
        rw [e1, e2]
      have HK8 : HK ≤ 8 := H8.out HK (List.mem_of_getElem? hHK)
      clear hy hnh hHK hts
      have hmk := mk_ints HK HK8
      go_upto_region 5 with fail
      have tq : wr.cell? ⟨T, 0, none⟩ = some (.slice an' i cn') := blk_cell HO.out.1.1 0 _ rfl
      have mt := fun o => ((up_dr (up_al (Below.refl wr.heap.size wr) o)).cell (World.block_lt_of_cell? _ _ tq)).trans tq
      have m0 := fun o => ((up_dr (up_al (Below.refl wr.heap.size wr) o)).cell (World.block_lt_of_cell? _ _ y0)).trans y0
      have m1 := fun o => ((up_dr (up_al (Below.refl wr.heap.size wr) o)).cell (World.block_lt_of_cell? _ _ y1)).trans y1
      have m2 := fun o => ((up_dr (up_al (Below.refl wr.heap.size wr) o)).cell (World.block_lt_of_cell? _ _ y2)).trans y2
      have m3 := fun o => ((up_dr (up_al (Below.refl wr.heap.size wr) o)).cell (World.block_lt_of_cell? _ _ y3)).trans y3
      have m4 := fun o => ((up_dr (up_al (Below.refl wr.heap.size wr) o)).cell (World.block_lt_of_cell? _ _ ch0)).trans ch0
      have l0 := fun o p => ((up_dr (up_al (up_al (Below.refl wr.heap.size wr) o) p)).cell (World.block_lt_of_cell? _ _ y0)).trans y0
      have l1 := fun o p => ((up_dr (up_al (up_al (Below.refl wr.heap.size wr) o) p)).cell (World.block_lt_of_cell? _ _ y1)).trans y1
      have l2 := fun o p => ((up_dr (up_al (up_al (Below.refl wr.heap.size wr) o) p)).cell (World.block_lt_of_cell? _ _ y2)).trans y2
      have l3 := fun o p => ((up_dr (up_al (up_al (Below.refl wr.heap.size wr) o) p)).cell (World.block_lt_of_cell? _ _ y3)).trans y3
      have l4 := fun o p => ((up_dr (up_al (up_al (Below.refl wr.heap.size wr) o) p)).cell (World.block_lt_of_cell? _ _ ch0)).trans ch0
      have lt' := fun o p => ((up_dr (up_al (up_al (Below.refl wr.heap.size wr) o) p)).cell (World.block_lt_of_cell? _ _ tq)).trans tq
      have U2 : Hid (Below wr.heap.size wr (((wr.alloc (.cells (zeroC HK) 3)).alloc (.cells #[.string y.key, .int .i64 y.seq, .int .i64 y.kind, .string y.val, .slice (some ⟨wr.heap.size, 0, none⟩) HK HK] 65)).drew)) := up_dr (up_al (up_al (Below.refl _ _) _) _)
      have HELN : Hid (es'.length = i) := by
        have := HO.out.1.2.read.len
        simp only [List.length_take, bare_len es hs HL.out] at this
        unfold Hid; omega
      have HA1 : Hid (OwnR (((wr.alloc (.cells (zeroC HK) 3)).alloc (.cells #[.string y.key, .int .i64 y.seq, .int .i64 y.kind, .string y.val, .slice (some ⟨wr.heap.size, 0, none⟩) HK HK] 65)).drew) (w.heap.size + 1) 65 5 (.slice an' i cn') (es'.map nrow)) := (HO.out.1.2.up U2.out).nodes
      have HA2 : Hid (Rws 5 (((wr.alloc (.cells (zeroC HK) 3)).alloc (.cells #[.string y.key, .int .i64 y.seq, .int .i64 y.kind, .string y.val, .slice (some ⟨wr.heap.size, 0, none⟩) HK HK] 65)).drew) (.slice (some ⟨wr.heap.size + 1, 0, none⟩) 1 1) [nrow (y, Value.slice (some ⟨wr.heap.size, 0, none⟩) HK HK)]) := by
        have := Rws.made (sz := 5) (wr.alloc (.cells (zeroC HK) 3)) 65 [nrow (y, Value.slice (some ⟨wr.heap.size, 0, none⟩) HK HK)] (by simp [nrow, enRow]) (by simp [maxLen])
        have e : (wr.alloc (.cells (zeroC HK) 3)).heap.size = wr.heap.size + 1 := by simp
        rw [e] at this
        exact this.up (up_dr (Below.refl _ _))
      have HA4 : Hid (((es'.map nrow).length + [nrow (y, Value.slice (some ⟨wr.heap.size, 0, none⟩) HK HK)].length + ((es'.map nrow).length + [nrow (y, Value.slice (some ⟨wr.heap.size, 0, none⟩) HK HK)].length) / 4 + 192) * 72 ≤ 281474976710656 ∧ (es'.map nrow).length + [nrow (y, Value.slice (some ⟨wr.heap.size, 0, none⟩) HK HK)].length ≤ maxLen) := by
        have := HELN.out
        unfold Hid maxLen; simp only [List.length_map, List.length_cons, List.length_nil]; omega
      have HA5 : Hid (w.heap.size + 1 ≤ (((wr.alloc (.cells (zeroC HK) 3)).alloc (.cells #[.string y.key, .int .i64 y.seq, .int .i64 y.kind, .string y.val, .slice (some ⟨wr.heap.size, 0, none⟩) HK HK] 65)).drew).heap.size) := by
        have h1 := U2.out.size
        have h2 := blk_lt HO.out.2.2
        unfold Hid; omega
      have HG : Hid (∀ (w6 : World) (v6 : Value), (((wr.alloc (.cells (zeroC HK) 3)).alloc (.cells #[.string y.key, .int .i64 y.seq, .int .i64 y.kind, .string y.val, .slice (some ⟨wr.heap.size, 0, none⟩) HK HK] 65)).drew).grownBy w6 (Value.ownBlock (.slice an' i cn')) → OwnR w6 (w.heap.size + 1) 65 5 v6 (es'.map nrow ++ [nrow (y, Value.slice (some ⟨wr.heap.size, 0, none⟩) HK HK)]) → ∃ a6 c6, v6 = .slice a6 (i + 1) c6 ∧ w6.cell? ⟨T, 0, none⟩ = some (.slice an' i cn') ∧ w6.frozen? ⟨T, 0, none⟩ = false ∧ w6.cell? ⟨b, off + i * 5, none⟩ = some (.string y.key) ∧ w6.cell? ⟨b, off + i * 5 + 1, none⟩ = some (.int .i64 y.seq) ∧ w6.cell? ⟨b, off + i * 5 + 2, none⟩ = some (.int .i64 y.kind) ∧ w6.cell? ⟨b, off + i * 5 + 3, none⟩ = some (.string y.val) ∧ w6.cell? ⟨bh, oh + i, none⟩ = some (.int .i64 (HK : Int)) ∧ Hid (∃ es2, WyB w (w6.setCell ⟨T, 0, none⟩ (.slice a6 (i + 1) c6)) T a6 (i + 1) c6 aG cG ⟨(bareS es hs).nodes.take (i + 1), (bareS es hs).head⟩ es2)) := by
        intro w6 v6 hg ho6
        obtain ⟨a6, c6, e6, _, _⟩ := (Rws.own ho6).len
        simp only [List.length_append, List.length_map, List.length_cons, List.length_nil] at e6
        rw [HELN.out] at e6
        subst e6
        have O3 := HO.out.1.up U2.out
        have hIn : OwnR (((wr.alloc (.cells (zeroC HK) 3)).alloc (.cells #[.string y.key, .int .i64 y.seq, .int .i64 y.kind, .string y.val, .slice (some ⟨wr.heap.size, 0, none⟩) HK HK] 65)).drew) wr.heap.size 3 1 (.slice (some ⟨wr.heap.size, 0, none⟩) HK HK) ((List.replicate HK (0 : Int)).map irow) := (own_made wr HK HK8).up (up_dr (up_al (Below.refl _ _) _))
        have hszw : w.heap.size + 1 ≤ wr.heap.size := by have := blk_lt HO.out.2.2; omega
        have z := O3.2.addRow O3.1 (by decide) (by decide) (by decide) (vI := .slice (some ⟨wr.heap.size, 0, none⟩) HK HK) (y := y) (nx := List.replicate HK 0) (hIn.mono hszw) (HO.out.1.2.apart_new hIn) hg ho6
        have bel := z.2.2.2 (w.heap.size + 1) (Nat.le_refl _) HTS.out HA5.out
        have hblk : ∀ (bb : Addr) (q : Value), wr.cell? bb = some q → bb.block < w.heap.size + 1 → w6.cell? bb = some q := by
          intro bb q hq hlt2
          have h1 := (U2.out.cell (World.block_lt_of_cell? wr _ hq)).trans hq
          refine hg.cell h1 ?_
          intro e
          have := (O3.2.nodes.2.lt _ e.symm).1
          omega
        have hbw : b < w.heap.size + 1 := by have h2 := (HV.out.at i hlt); obtain ⟨b', o', _, _, _, e', _, q0, _⟩ := h2; simp only [Value.slice.injEq, Option.some.injEq, Addr.mk.injEq] at e'; have := World.block_lt_of_cell? w _ q0; simp only at this; omega
        have hbw2 : bh < w.heap.size + 1 := by have h2 := (HH.out.at i (by rw [List.length_map, HL.out]; exact hlt)); obtain ⟨b', o', _, _, e', _, q0⟩ := h2; simp only [Value.slice.injEq, Option.some.injEq, Addr.mk.injEq] at e'; have := World.block_lt_of_cell? w _ q0; simp only at this; omega
        refine ⟨a6, c6, rfl, blk_cell z.1 0 _ rfl, blk_frozen z.1 0, hblk _ _ y0 hbw, hblk _ _ y1 hbw, hblk _ _ y2 hbw, hblk _ _ y3 hbw, hblk _ _ ch0 hbw2, es' ++ [(y, .slice (some ⟨wr.heap.size, 0, none⟩) HK HK)], ⟨z.2.1, ?_⟩, ?_, ?_⟩
        · rw [HTK.out, HAT.out]
          exact z.2.2.1
        · exact (up_trans HO.out.2.1 U2.out).trans (z.2.2.2 w.heap.size (by omega) (by have := HTS.out; omega) (by have := HA5.out; omega))
        · exact (bel.block w.heap.size (by omega)).trans (blk_up HO.out.2.2 U2.out)
      refine wp_region_held_drew (S := (fun w' => w'.cell? ⟨b, off + i * 5, none⟩ = some (.string y.key) ∧ w'.cell? ⟨b, off + i * 5 + 1, none⟩ = some (.int .i64 y.seq) ∧ w'.cell? ⟨b, off + i * 5 + 2, none⟩ = some (.int .i64 y.kind) ∧ w'.cell? ⟨b, off + i * 5 + 3, none⟩ = some (.string y.val) ∧ w'.cell? ⟨bh, oh + i, none⟩ = some (.int .i64 (HK : Int)))) (by kernel_rfl) (by (try dsimp only); first | with_reducible exact ⟨y0, y1, y2, y3, ch0⟩ | with_reducible exact ⟨t0, t1, t2, t3, t4⟩ | with_reducible exact ⟨m0 _, m1 _, m2 _, m3 _, m4 _⟩ | with_reducible exact ⟨l0 _ _, l1 _ _, l2 _ _, l3 _ _, l4 _ _⟩ | (simp [go_sem, y0, y1, y2, y3, ch0]; done) | (simp [go_sem, t0, t1, t2, t3, t4, nT, nT2, nT3, nT4]; done)) (fun hHeld => ?_)
      refine wpAnyH_take (i := 0) (v := ?_) rfl (by kernel_rfl) (by kernel_rfl) (by kernel_rfl) (fun _ _ _ h => h) (Or.inl ⟨by kernel_rfl, ?_⟩) (by assumption) ?_
      rotate_left
      focus (intro w hSw; (try dsimp only at hSw); go_simp; (try with_reducible rfl); done)
      try simp only [Act.put, List.getElem_toArray, List.getElem_cons_zero, List.getElem_cons_succ, List.setIfInBounds_toArray, List.set_cons_zero, List.set_cons_succ]
      refine wpAnyH_take (i := 2) (v := ?_) rfl (by kernel_rfl) (by kernel_rfl) (by kernel_rfl) (fun _ _ _ h => h) (Or.inl ⟨by kernel_rfl, ?_⟩) (by assumption) ?_
      rotate_left
      focus (intro w hSw; (try dsimp only at hSw); go_simp; (try with_reducible rfl); done)
      try simp only [Act.put, List.getElem_toArray, List.getElem_cons_zero, List.getElem_cons_succ, List.setIfInBounds_toArray, List.set_cons_zero, List.set_cons_succ]
      refine wpAnyH_take (i := 3) (v := ?_) rfl (by kernel_rfl) (by kernel_rfl) (by kernel_rfl) (fun _ _ _ h => h) (Or.inl ⟨by kernel_rfl, ?_⟩) (by assumption) ?_
      rotate_left
      focus (intro w hSw; (try dsimp only at hSw); go_simp; (try with_reducible rfl); done)
      try simp only [Act.put, List.getElem_toArray, List.getElem_cons_zero, List.getElem_cons_succ, List.setIfInBounds_toArray, List.set_cons_zero, List.set_cons_succ]
      refine wpAnyH_take (i := 4) (v := ?_) rfl (by kernel_rfl) (by kernel_rfl) (by kernel_rfl) (fun _ _ _ h => h) (Or.inl ⟨by kernel_rfl, ?_⟩) (by assumption) ?_
      rotate_left
      focus (intro w hSw; (try dsimp only at hSw); go_simp; (try with_reducible rfl); done)
      try simp only [Act.put, List.getElem_toArray, List.getElem_cons_zero, List.getElem_cons_succ, List.setIfInBounds_toArray, List.set_cons_zero, List.set_cons_succ]
      refine wpAnyH_take (i := 5) (v := ?_) rfl (by kernel_rfl) (by kernel_rfl) (by kernel_rfl) (fun _ _ _ h => h) (Or.inl ⟨by kernel_rfl, ?_⟩) (by assumption) ?_
      rotate_left
      focus (intro w hSw; (try dsimp only at hSw); go_simp; (try with_reducible rfl); done)
      try simp only [Act.put, List.getElem_toArray, List.getElem_cons_zero, List.getElem_cons_succ, List.setIfInBounds_toArray, List.set_cons_zero, List.set_cons_succ]
      refine wpAnyH_take (i := 6) (v := ?_) rfl (by kernel_rfl) (by kernel_rfl) (by kernel_rfl) (fun _ _ _ h => h) (Or.inl ⟨by kernel_rfl, ?_⟩) (by assumption) ?_
      rotate_left
      focus (intro w hSw; (try dsimp only at hSw); go_simp; (try with_reducible rfl); done)
      try simp only [Act.put, List.getElem_toArray, List.getElem_cons_zero, List.getElem_cons_succ, List.setIfInBounds_toArray, List.set_cons_zero, List.set_cons_succ]
      refine wpAnyH_take (i := 7) (v := ?_) rfl (by kernel_rfl) (by kernel_rfl) (by kernel_rfl) (fun _ _ _ h => h) (Or.inl ⟨by kernel_rfl, ?_⟩) (by assumption) ?_
      rotate_left
      focus (intro w hSw; (try dsimp only at hSw); go_simp; (try with_reducible rfl); done)
      try simp only [Act.put, List.getElem_toArray, List.getElem_cons_zero, List.getElem_cons_succ, List.setIfInBounds_toArray, List.set_cons_zero, List.set_cons_succ]
      refine wpAnyH_take (i := 8) (v := ?_) rfl (by kernel_rfl) (by kernel_rfl) (by kernel_rfl) (fun _ _ _ h => h) (Or.inl ⟨by kernel_rfl, ?_⟩) (by assumption) ?_
      rotate_left
      focus (intro w hSw; (try dsimp only at hSw); go_simp; (try with_reducible rfl); done)
      try simp only [Act.put, List.getElem_toArray, List.getElem_cons_zero, List.getElem_cons_succ, List.setIfInBounds_toArray, List.set_cons_zero, List.set_cons_succ]
      refine wpAnyH_take (i := 9) (v := ?_) rfl (by kernel_rfl) (by kernel_rfl) (by kernel_rfl) (fun _ _ _ h => h) (Or.inl ⟨by kernel_rfl, ?_⟩) (by assumption) ?_
      rotate_left
      focus (intro w hSw; (try dsimp only at hSw); go_simp; (try with_reducible rfl); done)
      try simp only [Act.put, List.getElem_toArray, List.getElem_cons_zero, List.getElem_cons_succ, List.setIfInBounds_toArray, List.set_cons_zero, List.set_cons_succ]
      refine wpAnyH_take (i := 10) (v := ?_) rfl (by kernel_rfl) (by kernel_rfl) (by kernel_rfl) (fun _ _ _ h => h) (Or.inl ⟨by kernel_rfl, ?_⟩) (by assumption) ?_
      rotate_left
      focus (intro w hSw; (try dsimp only at hSw); go_simp; (try with_reducible rfl); done)
      try simp only [Act.put, List.getElem_toArray, List.getElem_cons_zero, List.getElem_cons_succ, List.setIfInBounds_toArray, List.set_cons_zero, List.set_cons_succ]
      refine wpAnyH_ready (rs := [1, 11]) (by kernel_rfl) (by simp) ?_
      refine AllReadyH.cons rfl (fun K hK => ?_) (AllReadyH.cons rfl (fun K hK => ?_) AllReadyH.nil)
      · skip
        go_simp
        refine hK.out _ _ (by (try dsimp only); first | with_reducible exact ⟨y0, y1, y2, y3, ch0⟩ | with_reducible exact ⟨t0, t1, t2, t3, t4⟩ | with_reducible exact ⟨m0 _, m1 _, m2 _, m3 _, m4 _⟩ | with_reducible exact ⟨l0 _ _, l1 _ _, l2 _ _, l3 _ _, l4 _ _⟩ | (simp [go_sem, y0, y1, y2, y3, ch0]; done) | (simp [go_sem, t0, t1, t2, t3, t4, nT, nT2, nT3, nT4]; done)) (fun hHeld => ?_)
        clear hK K
        try simp only [Act.put, List.getElem_toArray, List.getElem_cons_zero, List.getElem_cons_succ, List.setIfInBounds_toArray, List.set_cons_zero, List.set_cons_succ]
        refine wpAnyH_ready (rs := [11]) (by kernel_rfl) (by simp) ?_
        refine AllReadyH.cons rfl (fun K hK => ?_) AllReadyH.nil
        go_simp
        refine hK.out _ _ (by (try dsimp only); first | with_reducible exact ⟨y0, y1, y2, y3, ch0⟩ | with_reducible exact ⟨t0, t1, t2, t3, t4⟩ | with_reducible exact ⟨m0 _, m1 _, m2 _, m3 _, m4 _⟩ | with_reducible exact ⟨l0 _ _, l1 _ _, l2 _ _, l3 _ _, l4 _ _⟩ | (simp [go_sem, y0, y1, y2, y3, ch0]; done) | (simp [go_sem, t0, t1, t2, t3, t4, nT, nT2, nT3, nT4]; done)) (fun hHeld => ?_)
        clear hK K
        try simp only [Act.put, List.getElem_toArray, List.getElem_cons_zero, List.getElem_cons_succ, List.setIfInBounds_toArray, List.set_cons_zero, List.set_cons_succ]
        refine wpAnyH_take (i := 12) (v := ?_) rfl (by kernel_rfl) (by kernel_rfl) (by kernel_rfl) (fun _ _ _ h => h) (Or.inl ⟨by kernel_rfl, ?_⟩) (by assumption) ?_
        rotate_left
        focus (intro w hSw; (try dsimp only at hSw); go_simp; (try with_reducible rfl); done)
        try simp only [Act.put, List.getElem_toArray, List.getElem_cons_zero, List.getElem_cons_succ, List.setIfInBounds_toArray, List.set_cons_zero, List.set_cons_succ]
        refine wpAnyH_ready (rs := [13]) (by kernel_rfl) (by simp) ?_
        refine AllReadyH.cons rfl (fun K hK => ?_) AllReadyH.nil
        go_simp
        refine hK.out _ _ (by (try dsimp only); first | with_reducible exact ⟨y0, y1, y2, y3, ch0⟩ | with_reducible exact ⟨t0, t1, t2, t3, t4⟩ | with_reducible exact ⟨m0 _, m1 _, m2 _, m3 _, m4 _⟩ | with_reducible exact ⟨l0 _ _, l1 _ _, l2 _ _, l3 _ _, l4 _ _⟩ | (simp [go_sem, y0, y1, y2, y3, ch0]; done) | (simp [go_sem, t0, t1, t2, t3, t4, nT, nT2, nT3, nT4]; done)) (fun hHeld => ?_)
        clear hK K
        try simp only [Act.put, List.getElem_toArray, List.getElem_cons_zero, List.getElem_cons_succ, List.setIfInBounds_toArray, List.set_cons_zero, List.set_cons_succ]
        refine wpAnyH_ready (rs := [14]) (by kernel_rfl) (by simp) ?_
        refine AllReadyH.cons rfl (fun K hK => ?_) AllReadyH.nil
        refine step_append_rows _ rfl (.tmp 20) (.tmp 32) 22 65 _ 5 72 rfl Try.underlying22 Try.info65 rfl (by decide) (w.heap.size + 1) (.slice an' i cn') (es'.map nrow) rfl HA1.out _ [nrow (y, Value.slice (some ⟨wr.heap.size, 0, none⟩) HK HK)] rfl HA2.out (nrow_one (w := w) y _ _ _) HA4.out.1 HA4.out.2 HA5.out ?_
        intro v6 w6 o6 g6
        obtain ⟨a6, c6, rfl, tt, tf, t0, t1, t2, t3, t4, hz⟩ := HG.out _ _ g6 o6
        refine hK.out _ _ (by (try dsimp only); first | with_reducible exact ⟨y0, y1, y2, y3, ch0⟩ | with_reducible exact ⟨t0, t1, t2, t3, t4⟩ | with_reducible exact ⟨m0 _, m1 _, m2 _, m3 _, m4 _⟩ | with_reducible exact ⟨l0 _ _, l1 _ _, l2 _ _, l3 _ _, l4 _ _⟩ | (simp [go_sem, y0, y1, y2, y3, ch0]; done) | (simp [go_sem, t0, t1, t2, t3, t4, nT, nT2, nT3, nT4]; done)) (fun hHeld => ?_)
        clear hK K
        try simp only [Act.put, List.getElem_toArray, List.getElem_cons_zero, List.getElem_cons_succ, List.setIfInBounds_toArray, List.set_cons_zero, List.set_cons_succ]
        refine wpAnyH_take (i := 15) (v := ?_) rfl (by kernel_rfl) (by kernel_rfl) (by kernel_rfl) (fun _ _ _ h => h) (Or.inl ⟨by kernel_rfl, ?_⟩) (by assumption) ?_
        rotate_left
        focus (intro w hSw; (try dsimp only at hSw); go_simp; (try with_reducible rfl); done)
        try simp only [Act.put, List.getElem_toArray, List.getElem_cons_zero, List.getElem_cons_succ, List.setIfInBounds_toArray, List.set_cons_zero, List.set_cons_succ]
        refine wpAnyH_ready (rs := [16]) (by kernel_rfl) (by simp) ?_
        refine AllReadyH.cons rfl (fun K hK => ?_) AllReadyH.nil
        go_simp
        refine hK.out _ _ (by (try dsimp only); first | with_reducible exact ⟨y0, y1, y2, y3, ch0⟩ | with_reducible exact ⟨t0, t1, t2, t3, t4⟩ | with_reducible exact ⟨m0 _, m1 _, m2 _, m3 _, m4 _⟩ | with_reducible exact ⟨l0 _ _, l1 _ _, l2 _ _, l3 _ _, l4 _ _⟩ | (simp [go_sem, y0, y1, y2, y3, ch0]; done) | (simp [go_sem, t0, t1, t2, t3, t4, nT, nT2, nT3, nT4]; done)) (fun hHeld => ?_)
        clear hK K
        try simp only [Act.put, List.getElem_toArray, List.getElem_cons_zero, List.getElem_cons_succ, List.setIfInBounds_toArray, List.set_cons_zero, List.set_cons_succ]
        refine wpAnyH_done (by kernel_rfl) ?_ _
        clear y0 y1 y2 y3 ch0 tq m0 m1 m2 m3 m4 mt l0 l1 l2 l3 l4 lt' t0 t1 t2 t3 t4 tt tf g6 o6 hmk
        obtain ⟨es2, hz2⟩ := hz.out
        go_wp2_with fail
        exact ⟨⟨i + 1, a6, c6, es2, by omega, by go_num, hz2⟩, by simp [intOf]; omega⟩
      · skip
        go_simp
        refine hK.out _ _ (by (try dsimp only); first | with_reducible exact ⟨y0, y1, y2, y3, ch0⟩ | with_reducible exact ⟨t0, t1, t2, t3, t4⟩ | with_reducible exact ⟨m0 _, m1 _, m2 _, m3 _, m4 _⟩ | with_reducible exact ⟨l0 _ _, l1 _ _, l2 _ _, l3 _ _, l4 _ _⟩ | (simp [go_sem, y0, y1, y2, y3, ch0]; done) | (simp [go_sem, t0, t1, t2, t3, t4, nT, nT2, nT3, nT4]; done)) (fun hHeld => ?_)
        clear hK K
        try simp only [Act.put, List.getElem_toArray, List.getElem_cons_zero, List.getElem_cons_succ, List.setIfInBounds_toArray, List.set_cons_zero, List.set_cons_succ]
        refine wpAnyH_take (i := 12) (v := ?_) rfl (by kernel_rfl) (by kernel_rfl) (by kernel_rfl) (fun _ _ _ h => h) (Or.inl ⟨by kernel_rfl, ?_⟩) (by assumption) ?_
        rotate_left
        focus (intro w hSw; (try dsimp only at hSw); go_simp; (try with_reducible rfl); done)
        try simp only [Act.put, List.getElem_toArray, List.getElem_cons_zero, List.getElem_cons_succ, List.setIfInBounds_toArray, List.set_cons_zero, List.set_cons_succ]
        refine wpAnyH_ready (rs := [1, 13]) (by kernel_rfl) (by simp) ?_
        refine AllReadyH.cons rfl (fun K hK => ?_) (AllReadyH.cons rfl (fun K hK => ?_) AllReadyH.nil)
        · skip
          go_simp
          refine hK.out _ _ (by (try dsimp only); first | with_reducible exact ⟨y0, y1, y2, y3, ch0⟩ | with_reducible exact ⟨t0, t1, t2, t3, t4⟩ | with_reducible exact ⟨m0 _, m1 _, m2 _, m3 _, m4 _⟩ | with_reducible exact ⟨l0 _ _, l1 _ _, l2 _ _, l3 _ _, l4 _ _⟩ | (simp [go_sem, y0, y1, y2, y3, ch0]; done) | (simp [go_sem, t0, t1, t2, t3, t4, nT, nT2, nT3, nT4]; done)) (fun hHeld => ?_)
          clear hK K
          try simp only [Act.put, List.getElem_toArray, List.getElem_cons_zero, List.getElem_cons_succ, List.setIfInBounds_toArray, List.set_cons_zero, List.set_cons_succ]
          refine wpAnyH_ready (rs := [13]) (by kernel_rfl) (by simp) ?_
          refine AllReadyH.cons rfl (fun K hK => ?_) AllReadyH.nil
          go_simp
          refine hK.out _ _ (by (try dsimp only); first | with_reducible exact ⟨y0, y1, y2, y3, ch0⟩ | with_reducible exact ⟨t0, t1, t2, t3, t4⟩ | with_reducible exact ⟨m0 _, m1 _, m2 _, m3 _, m4 _⟩ | with_reducible exact ⟨l0 _ _, l1 _ _, l2 _ _, l3 _ _, l4 _ _⟩ | (simp [go_sem, y0, y1, y2, y3, ch0]; done) | (simp [go_sem, t0, t1, t2, t3, t4, nT, nT2, nT3, nT4]; done)) (fun hHeld => ?_)
          clear hK K
          try simp only [Act.put, List.getElem_toArray, List.getElem_cons_zero, List.getElem_cons_succ, List.setIfInBounds_toArray, List.set_cons_zero, List.set_cons_succ]
          refine wpAnyH_ready (rs := [14]) (by kernel_rfl) (by simp) ?_
          refine AllReadyH.cons rfl (fun K hK => ?_) AllReadyH.nil
          refine step_append_rows _ rfl (.tmp 20) (.tmp 32) 22 65 _ 5 72 rfl Try.underlying22 Try.info65 rfl (by decide) (w.heap.size + 1) (.slice an' i cn') (es'.map nrow) rfl HA1.out _ [nrow (y, Value.slice (some ⟨wr.heap.size, 0, none⟩) HK HK)] rfl HA2.out (nrow_one (w := w) y _ _ _) HA4.out.1 HA4.out.2 HA5.out ?_
          intro v6 w6 o6 g6
          obtain ⟨a6, c6, rfl, tt, tf, t0, t1, t2, t3, t4, hz⟩ := HG.out _ _ g6 o6
          refine hK.out _ _ (by (try dsimp only); first | with_reducible exact ⟨y0, y1, y2, y3, ch0⟩ | with_reducible exact ⟨t0, t1, t2, t3, t4⟩ | with_reducible exact ⟨m0 _, m1 _, m2 _, m3 _, m4 _⟩ | with_reducible exact ⟨l0 _ _, l1 _ _, l2 _ _, l3 _ _, l4 _ _⟩ | (simp [go_sem, y0, y1, y2, y3, ch0]; done) | (simp [go_sem, t0, t1, t2, t3, t4, nT, nT2, nT3, nT4]; done)) (fun hHeld => ?_)
          clear hK K
          try simp only [Act.put, List.getElem_toArray, List.getElem_cons_zero, List.getElem_cons_succ, List.setIfInBounds_toArray, List.set_cons_zero, List.set_cons_succ]
          refine wpAnyH_take (i := 15) (v := ?_) rfl (by kernel_rfl) (by kernel_rfl) (by kernel_rfl) (fun _ _ _ h => h) (Or.inl ⟨by kernel_rfl, ?_⟩) (by assumption) ?_
          rotate_left
          focus (intro w hSw; (try dsimp only at hSw); go_simp; (try with_reducible rfl); done)
          try simp only [Act.put, List.getElem_toArray, List.getElem_cons_zero, List.getElem_cons_succ, List.setIfInBounds_toArray, List.set_cons_zero, List.set_cons_succ]
          refine wpAnyH_ready (rs := [16]) (by kernel_rfl) (by simp) ?_
          refine AllReadyH.cons rfl (fun K hK => ?_) AllReadyH.nil
          go_simp
          refine hK.out _ _ (by (try dsimp only); first | with_reducible exact ⟨y0, y1, y2, y3, ch0⟩ | with_reducible exact ⟨t0, t1, t2, t3, t4⟩ | with_reducible exact ⟨m0 _, m1 _, m2 _, m3 _, m4 _⟩ | with_reducible exact ⟨l0 _ _, l1 _ _, l2 _ _, l3 _ _, l4 _ _⟩ | (simp [go_sem, y0, y1, y2, y3, ch0]; done) | (simp [go_sem, t0, t1, t2, t3, t4, nT, nT2, nT3, nT4]; done)) (fun hHeld => ?_)
          clear hK K
          try simp only [Act.put, List.getElem_toArray, List.getElem_cons_zero, List.getElem_cons_succ, List.setIfInBounds_toArray, List.set_cons_zero, List.set_cons_succ]
          refine wpAnyH_done (by kernel_rfl) ?_ _
          clear y0 y1 y2 y3 ch0 tq m0 m1 m2 m3 m4 mt l0 l1 l2 l3 l4 lt' t0 t1 t2 t3 t4 tt tf g6 o6 hmk
          obtain ⟨es2, hz2⟩ := hz.out
          go_wp2_with fail
          exact ⟨⟨i + 1, a6, c6, es2, by omega, by go_num, hz2⟩, by simp [intOf]; omega⟩
        · skip
          go_simp
          refine hK.out _ _ (by (try dsimp only); first | with_reducible exact ⟨y0, y1, y2, y3, ch0⟩ | with_reducible exact ⟨t0, t1, t2, t3, t4⟩ | with_reducible exact ⟨m0 _, m1 _, m2 _, m3 _, m4 _⟩ | with_reducible exact ⟨l0 _ _, l1 _ _, l2 _ _, l3 _ _, l4 _ _⟩ | (simp [go_sem, y0, y1, y2, y3, ch0]; done) | (simp [go_sem, t0, t1, t2, t3, t4, nT, nT2, nT3, nT4]; done)) (fun hHeld => ?_)
          clear hK K
          try simp only [Act.put, List.getElem_toArray, List.getElem_cons_zero, List.getElem_cons_succ, List.setIfInBounds_toArray, List.set_cons_zero, List.set_cons_succ]
          refine wpAnyH_ready (rs := [1]) (by kernel_rfl) (by simp) ?_
          refine AllReadyH.cons rfl (fun K hK => ?_) AllReadyH.nil
          go_simp
          refine hK.out _ _ (by (try dsimp only); first | with_reducible exact ⟨y0, y1, y2, y3, ch0⟩ | with_reducible exact ⟨t0, t1, t2, t3, t4⟩ | with_reducible exact ⟨m0 _, m1 _, m2 _, m3 _, m4 _⟩ | with_reducible exact ⟨l0 _ _, l1 _ _, l2 _ _, l3 _ _, l4 _ _⟩ | (simp [go_sem, y0, y1, y2, y3, ch0]; done) | (simp [go_sem, t0, t1, t2, t3, t4, nT, nT2, nT3, nT4]; done)) (fun hHeld => ?_)
          clear hK K
          try simp only [Act.put, List.getElem_toArray, List.getElem_cons_zero, List.getElem_cons_succ, List.setIfInBounds_toArray, List.set_cons_zero, List.set_cons_succ]
          refine wpAnyH_ready (rs := [14]) (by kernel_rfl) (by simp) ?_
          refine AllReadyH.cons rfl (fun K hK => ?_) AllReadyH.nil
          refine step_append_rows _ rfl (.tmp 20) (.tmp 32) 22 65 _ 5 72 rfl Try.underlying22 Try.info65 rfl (by decide) (w.heap.size + 1) (.slice an' i cn') (es'.map nrow) rfl HA1.out _ [nrow (y, Value.slice (some ⟨wr.heap.size, 0, none⟩) HK HK)] rfl HA2.out (nrow_one (w := w) y _ _ _) HA4.out.1 HA4.out.2 HA5.out ?_
          intro v6 w6 o6 g6
          obtain ⟨a6, c6, rfl, tt, tf, t0, t1, t2, t3, t4, hz⟩ := HG.out _ _ g6 o6
          refine hK.out _ _ (by (try dsimp only); first | with_reducible exact ⟨y0, y1, y2, y3, ch0⟩ | with_reducible exact ⟨t0, t1, t2, t3, t4⟩ | with_reducible exact ⟨m0 _, m1 _, m2 _, m3 _, m4 _⟩ | with_reducible exact ⟨l0 _ _, l1 _ _, l2 _ _, l3 _ _, l4 _ _⟩ | (simp [go_sem, y0, y1, y2, y3, ch0]; done) | (simp [go_sem, t0, t1, t2, t3, t4, nT, nT2, nT3, nT4]; done)) (fun hHeld => ?_)
          clear hK K
          try simp only [Act.put, List.getElem_toArray, List.getElem_cons_zero, List.getElem_cons_succ, List.setIfInBounds_toArray, List.set_cons_zero, List.set_cons_succ]
          refine wpAnyH_take (i := 15) (v := ?_) rfl (by kernel_rfl) (by kernel_rfl) (by kernel_rfl) (fun _ _ _ h => h) (Or.inl ⟨by kernel_rfl, ?_⟩) (by assumption) ?_
          rotate_left
          focus (intro w hSw; (try dsimp only at hSw); go_simp; (try with_reducible rfl); done)
          try simp only [Act.put, List.getElem_toArray, List.getElem_cons_zero, List.getElem_cons_succ, List.setIfInBounds_toArray, List.set_cons_zero, List.set_cons_succ]
          refine wpAnyH_ready (rs := [16]) (by kernel_rfl) (by simp) ?_
          refine AllReadyH.cons rfl (fun K hK => ?_) AllReadyH.nil
          go_simp
          refine hK.out _ _ (by (try dsimp only); first | with_reducible exact ⟨y0, y1, y2, y3, ch0⟩ | with_reducible exact ⟨t0, t1, t2, t3, t4⟩ | with_reducible exact ⟨m0 _, m1 _, m2 _, m3 _, m4 _⟩ | with_reducible exact ⟨l0 _ _, l1 _ _, l2 _ _, l3 _ _, l4 _ _⟩ | (simp [go_sem, y0, y1, y2, y3, ch0]; done) | (simp [go_sem, t0, t1, t2, t3, t4, nT, nT2, nT3, nT4]; done)) (fun hHeld => ?_)
          clear hK K
          try simp only [Act.put, List.getElem_toArray, List.getElem_cons_zero, List.getElem_cons_succ, List.setIfInBounds_toArray, List.set_cons_zero, List.set_cons_succ]
          refine wpAnyH_done (by kernel_rfl) ?_ _
          clear y0 y1 y2 y3 ch0 tq m0 m1 m2 m3 m4 mt l0 l1 l2 l3 l4 lt' t0 t1 t2 t3 t4 tt tf g6 o6 hmk
          obtain ⟨es2, hz2⟩ := hz.out
          go_wp2_with fail
          exact ⟨⟨i + 1, a6, c6, es2, by omega, by go_num, hz2⟩, by simp [intOf]; omega⟩
    · obtain rfl : i = es.length := by omega
      have HS0 : Hid (WyB w wr T an' es.length cn' aG cG (bareS es hs) es') := by
        have := HO.out
        rw [← bare_len es hs HL.out, List.take_length, bare_len es hs HL.out] at this
        exact this
      have HOD := order_any es (.slice al es.length cl) wr (HV.out.up HO.out.2.1) hn
      have HODH : Hid (Calls Try.prog 38 #[.slice al es.length cl] wr fun e w' => ∃ a c, e = .returned (.slice a es.length c) ∧ Hid (OwnR w' wr.heap.size 3 1 (.slice a es.length c) ((orderF (es.map (·.1)) es.length).map inrow)) ∧ Hid (Below wr.heap.size wr w')) := HOD
      clear HOD HO
      go_wp2_with fail
      refine HODH.out.mono ?_
      rintro e wO ⟨ao, co, rfl, OO, UO⟩
      generalize hoo : orderF (es.map (·.1)) es.length = o at *
      have HOF : Hid (o.length = es.length ∧ o.Nodup ∧ (∀ k ∈ o, k < es.length) ∧ orderF (es.map (·.1)) es.length = o) := by
        have hlen : (es.map (·.1)).length = es.length := List.length_map _
        refine ⟨by rw [← hoo, orderF_len], ?_, ?_, hoo⟩
        · rw [← hoo, ← hlen]
          exact Srt.nodup (orderF_srt _ HON.out _ (Nat.le_refl _))
        · intro k hk
          rw [← hoo] at hk
          exact orderF_lt _ _ k hk
      have HSW : Hid (WyB w wO T an' es.length cn' aG cG (bareS es hs) es' ∧ Rws 1 wO (.slice ao es.length co) (o.map inrow)) := by
        refine ⟨⟨HS0.out.1.up UO.out, up_trans HS0.out.2.1 UO.out, blk_up HS0.out.2.2 UO.out⟩, Rws.own OO.out⟩
      have HLT : Hid (∀ a g n2 c2, a ≤ es.length → wayV (.slice aG 8 cG) es' a = .slice (some ⟨g, 0, none⟩) n2 c2 → g < wr.heap.size) := by
        intro a g n2 c2 ha e
        cases a with
        | zero =>
          simp only [wayV] at e
          exact (HS0.out.1.2.head.2.lt g (by rw [e]; rfl)).2
        | succ k =>
          have hk : k < es'.length := by rw [HS0.out.1.2.read.len, bare_len es hs HL.out]; omega
          have e2 : wayV (.slice aG 8 cG) es' (k + 1) = es'[k].2 := by simp [wayV, List.getD, hk]
          rw [e2] at e
          exact ((HS0.out.1.2.nexts k es'[k] (by simp [hk])).2.lt g (by rw [e]; rfl)).2
      have HOG : Hid (∀ g, Value.ownBlock (.slice ao es.length co) = some g → wr.heap.size ≤ g) := fun g hg => (OO.out.2.lt g hg).1
      obtain ⟨wq, hwq⟩ : ∃ wq, wq = wr := ⟨wr, rfl⟩
      subst hwq
      clear hoo OO UO HS0 HODH
      go_wp2_with fail
      go_loopw [8] (fun q wx => ∃ (L : Nat) (s : Sk), L ≤ 8 ∧ q = .int .i64 (L : Int) ∧ Hid (WyB w wx T an' es.length cn' aG cG s es' ∧ WInv s o L ∧ s.es = es.map (·.1) ∧ s.hs = hs ∧ s.head.length = 8 ∧ Rws 1 wx (.slice ao es.length co) (o.map inrow))) (fun q _ => 8 - (intOf q).toNat)
      case atStart => exact ⟨0, bareS es hs, by omega, rfl, HSW.out.1, WInv.start (bare_zero es hs HL.out), bare_es es hs HL.out, bare_hs es hs HL.out, by simp [bareS], HSW.out.2⟩
      case round =>
        clear HSW
        obtain ⟨L, s, hL, rfl, HI⟩ := hrel
        by_cases hL8 : L < 8
        · have hL8' : (L : Int) < 8 := by omega
          have hL0 : 0 ≤ (L : Int) := by omega
          go_wp2_with fail
          go_loopw [9, 10] (fun q9 q wx => ∃ (i a : Nat) (s : Sk), i ≤ es.length ∧ a ≤ es.length ∧ q = .int .i64 (i : Int) ∧ q9 = .int .i64 ((a : Int) - 1) ∧ Hid (WyB w wx T an' es.length cn' aG cG s es' ∧ WIn s o L (o.take i) a ∧ s.es = es.map (·.1) ∧ s.hs = hs ∧ s.head.length = 8 ∧ Rws 1 wx (.slice ao es.length co) (o.map inrow))) (fun _ q _ => es.length - (intOf q).toNat)
          case atStart => exact ⟨0, 0, s, by omega, by omega, rfl, rfl, HI.out.1, HI.out.2.1.open', HI.out.2.2⟩
          case round =>
            clear HI
            obtain ⟨i, a, s, hi, ha, rfl, rfl, HI⟩ := hrel
            by_cases hil : i < es.length
            · have hil' : (i : Int) < (es.length : Int) := by omega
              have hi0 : 0 ≤ (i : Int) := by omega
              obtain ⟨k, hk⟩ : ∃ k, o[i]? = some k := ⟨o[i]'(by rw [HOF.out.1]; exact hil), by simp [HOF.out.1, hil]⟩
              have hkn : k < es.length := HOF.out.2.2.1 k (List.mem_of_getElem? hk)
              have hkn' : (k : Int) < (es.length : Int) := by omega
              have hk0 : 0 ≤ (k : Int) := by omega
              obtain ⟨bo, oo, cpo, eo, _, _, hco⟩ := HI.out.2.2.2.2.2.at i (by rw [List.length_map, HOF.out.1]; exact hil)
              simp only [Value.slice.injEq] at eo
              obtain ⟨rfl, hx_, rfl⟩ := eo
              clear hx_
              have o0 : wr.cell? ⟨bo, oo + i, none⟩ = some (.int .i64 (k : Int)) := by
                have hg : (o.map inrow).getD i [] = inrow k := by simp [List.getD, hk]
                have := hco 0 (.int .i64 (k : Int)) (by rw [hg]; rfl)
                simpa using this
              clear hco
              have hsl : s.nodes.length = es.length := by rw [← Sk.es_len, HI.out.2.2.1, List.length_map]
              obtain ⟨bh, oh, cph, nh, e, hnh, ch0⟩ := (HH.out.up HI.out.1.2.1).at k (by rw [List.length_map, HL.out]; exact hkn)
              simp only [Value.slice.injEq] at e
              obtain ⟨rfl, hx_, rfl⟩ := e
              clear hx_
              have HHK : Hid (nh = (s.h k : Int)) := by
                unfold Hid
                rw [List.getElem?_map] at hnh
                have e1 : s.hs[k]? = some (s.h k) := by simp [Sk.hs, Sk.h, Sk.at', List.getD, hsl, hkn]
                rw [HI.out.2.2.2.1] at e1
                rw [e1] at hnh
                simp only [Option.map_some, Option.some.injEq, castI] at hnh
                exact hnh.symm
              have HTK : Hid (o.take (i + 1) = o.take i ++ [k]) := by
                unfold Hid
                rw [List.take_add_one, hk]
                rfl
              have HNP : Hid (k ∉ o.take i) := by
                intro hm
                have nd := HOF.out.2.1
                rw [← List.take_append_drop i o] at nd
                have hk2 : k ∈ o.drop i := by
                  have : (o.drop i)[0]? = some k := by rw [List.getElem?_drop]; exact hk
                  exact List.mem_of_getElem? this
                exact (List.nodup_append.1 nd).2.2 k hm k hk2 rfl
              have HSL : Hid (s.nodes.length = es.length) := hsl
              clear hnh hsl hk
              by_cases hlow : s.h k ≤ L
              · have hnl : nh ≤ (L : Int) := by rw [HHK.out]; omega
                go_wp2_with fail
                refine ⟨⟨i + 1, a, s, by omega, ha, by go_num, rfl, ?_⟩, by simp [intOf]; omega⟩
                unfold Hid
                rw [HTK.out]
                exact ⟨HI.out.1, HI.out.2.1.low (by omega), HI.out.2.2⟩
              · have hnl : ¬ nh ≤ (L : Int) := by rw [HHK.out]; omega
                have hways : L < (s.ways a).length := by
                  rcases HI.out.2.1.last with ⟨q, _⟩ | ⟨A, j, B, _, q, q2, _⟩
                  · subst q
                    show L < s.head.length
                    rw [HI.out.2.2.2.2.1]; exact hL8
                  · subst q
                    exact q2
                obtain ⟨g, cg, ew, hg1, hg2, cg0, fg0, hset⟩ := HI.out.1.1.2.set (by decide) a (by rw [HSL.out]; exact ha) L hways
                have HNEW : Hid (WyB w (wr.setCell ⟨g, L, none⟩ (.int .i64 ((k : Int) + 1))) T an' es.length cn' aG cG (s.set a L ((k : Int) + 1)) es' ∧ WIn (s.set a L ((k : Int) + 1)) o L (o.take (i + 1)) (k + 1) ∧ (s.set a L ((k : Int) + 1)).es = es.map (·.1) ∧ (s.set a L ((k : Int) + 1)).hs = hs ∧ (s.set a L ((k : Int) + 1)).head.length = 8 ∧ Rws 1 (wr.setCell ⟨g, L, none⟩ (.int .i64 ((k : Int) + 1))) (.slice (some ⟨bo, oo, none⟩) es.length co) (o.map inrow)) := by
                  have st := hset ((k : Int) + 1)
                  have hblk : ∃ cs fr, wr.heap[g]? = some (.cells cs 3 fr) := OwnR.block_type2 HI.out.1.1.2 ew (by rw [HSL.out]; exact ha)
                  obtain ⟨cs, fr, hblk⟩ := hblk
                  refine ⟨⟨⟨blk_grown HI.out.1.1.1 st.2 ?_, st.1⟩, ?_, blk_grown HI.out.1.2.2 st.2 ?_⟩, ?_, by rw [Sk.set_es]; exact HI.out.2.2.1, by rw [Sk.set_hs]; exact HI.out.2.2.2.1, by rw [Sk.set_head]; exact HI.out.2.2.2.2.1, ?_⟩
                  · intro q
                    injection q with q
                    subst q
                    have := HI.out.1.1.1
                    rw [hblk] at this
                    simp at this
                  · exact HI.out.1.2.1.grown st.2 HI.out.1.2.1.size (fun k2 hk2 => by injection hk2 with hk2; omega)
                  · intro q
                    injection q with q
                    omega
                  · rw [HTK.out]
                    exact HI.out.2.1.high (by omega) (by rw [HSL.out]; exact hkn) HNP.out (HOF.out.2.1.sublist (List.take_sublist _ _)) (fun j hj => by rw [HSL.out]; exact HOF.out.2.2.1 j (List.mem_of_mem_take hj)) (by rw [HI.out.2.2.2.2.1]; exact hL8)
                  · refine HI.out.2.2.2.2.2.far st.2 (fun b2 hb2 _ q => ?_)
                    injection q with q
                    subst q
                    have h1 := HLT.out a b2 _ _ ha ew
                    have h2 := HOG.out b2 hb2
                    omega
                have hLg : (L : Int) < ((s.ways a).length : Int) := by omega
                cases a with
                | zero =>
                  have t1 : wr.cell? ⟨T, 1, none⟩ = some (.slice aG 8 cG) := blk_cell HI.out.1.1.1 1 _ rfl
                  simp only [wayV] at ew
                  simp only [Value.slice.injEq] at ew
                  obtain ⟨rfl, hx_, rfl⟩ := ew
                  clear hx_ hset hways
                  have z1 : ((0 : Nat) : Int) - 1 < 0 := by decide
                  go_wp2_with fail
                  refine ⟨⟨i + 1, k + 1, s.set 0 L ((k : Int) + 1), by omega, by omega, by go_num, ?_, HNEW⟩, by simp [intOf]; omega⟩
                  have : (((k + 1 : Nat)) : Int) - 1 = (k : Int) := by omega
                  rw [this]
                | succ j =>
                  have t0 : wr.cell? ⟨T, 0, none⟩ = some (.slice an' es.length cn') := blk_cell HI.out.1.1.1 0 _ rfl
                  have hjn : (j : Int) < (es.length : Int) := by omega
                  have hj0 : 0 ≤ (j : Int) := by omega
                  obtain ⟨bN, offN, an2, cn2, rfl, _, hw, _, _, _, _, y4⟩ := HI.out.1.1.2.read.node j (by rw [HSL.out]; omega)
                  rw [hw] at ew
                  simp only [Value.slice.injEq] at ew
                  obtain ⟨rfl, hx_, rfl⟩ := ew
                  have e1 : (((j + 1 : Nat)) : Int) - 1 = (j : Int) := by omega
                  have z1 : ¬ (j : Int) < 0 := by omega
                  have hLh : (L : Int) < (s.h j : Int) := by rw [hx_]; exact hLg
                  rw [e1]
                  clear hx_ hset hways hw hLg
                  generalize hhj : s.h j = hj at *
                  clear hhj
                  go_wp2_with fail
                  refine ⟨⟨i + 1, k + 1, s.set (j + 1) L ((k : Int) + 1), by omega, by omega, by go_num, ?_, HNEW⟩, by simp [intOf]; omega⟩
                  have : (((k + 1 : Nat)) : Int) - 1 = (k : Int) := by omega
                  rw [this]
            · obtain rfl : i = es.length := by omega
              have HC : Hid (WInv s o (L + 1)) := by
                have := HI.out.2.1
                rw [← HOF.out.1, List.take_length] at this
                exact this.close
              go_wp2_with fail
              exact ⟨⟨L + 1, s, by omega, by go_num, HI.out.1, HC.out, HI.out.2.2⟩, by simp [intOf]; omega⟩
        · have hL8' : ¬ (L : Int) < 8 := by omega
          have t0 : wr.cell? ⟨T, 0, none⟩ = some (.slice an' es.length cn') := blk_cell HI.out.1.1.1 0 _ rfl
          have t1 : wr.cell? ⟨T, 1, none⟩ = some (.slice aG 8 cG) := blk_cell HI.out.1.1.1 1 _ rfl
          have d0 : wr.cell? ⟨w.heap.size, 0, none⟩ = some (.slice none 0 0) := blk_cell HI.out.1.2.2 0 _ rfl
          have d1 : wr.cell? ⟨w.heap.size, 1, none⟩ = some (.slice none 0 0) := blk_cell HI.out.1.2.2 1 _ rfl
          have f0 := fun k => blk_frozen HI.out.1.2.2 k
          go_wp2_with fail
          refine bodyPost_ret (results_st rfl (.inr rfl) _ _ rfl (set2_blk HI.out.1.2.2 (.slice an' es.length cn') (.slice aG 8 cG))) rfl ?_
          have g2 := set2_grown wr w.heap.size (.slice an' es.length cn') (.slice aG 8 cG)
          refine ⟨_, _, rfl, ⟨s, es', (HI.out.1.1.2.block HI.out.1.2.2 (by decide) (by decide) g2).mono (by omega), HI.out.2.2.1, HI.out.2.2.2.1, HI.out.2.2.2.2.1, ?_⟩, ?_⟩
          · rw [HOF.out.2.2.2]
            exact fun l hl => HI.out.2.1.done l (by omega)
          · exact HI.out.1.2.1.grown g2 HI.out.1.2.1.size (fun k hk => by injection hk with hk; omega)
end Go.Proofs.Ytmiokopnhkojoaa
