
import Derived.Test.YthiegmhplnbdlaaGreatG16
import Derived.Test.YthiegmhplnbdlaaGreatG17
import Derived.Test.YthiegmhplnbdlaaGreatG15
import Derived.Deep.CutRange
namespace Go.Proofs.YthiegmhplnbdlaaGreat
open Go.RowKit
set_option linter.unusedVariables false
set_option linter.unusedSimpArgs false
def WiB (w wr : World) (vN vH : Value) (x : En) (L : List Nat) : Prop :=
  Below w.heap.size w wr ∧ wr.heap[w.heap.size]? = some (.cells #[vN, vH] 39) ∧ wr.heap[w.heap.size + 1]? = some (enObj x) ∧ wr.heap[w.heap.size + 2]? = some (.cells (arrC L) 89) ∧ wr.heap[w.heap.size + 3]? = some (.cells #[.slice none 0 0, .slice none 0 0] 39)
theorem WiB.up {w wr w' : World} {vN vH : Value} {x : En} {L : List Nat} (h : WiB w wr vN vH x L) (hb : Below wr.heap.size wr w') : WiB w w' vN vH x L :=
  ⟨up_trans h.1 hb, blk_up h.2.1 hb, blk_up h.2.2.1 hb, blk_up h.2.2.2.1 hb, blk_up h.2.2.2.2 hb⟩
theorem WiB.set {w wr w' : World} {vN vH : Value} {x : En} {L : List Nat} {g : Nat} (h : WiB w wr vN vH x L) (hg : wr.grownBy w' (some g)) (h4 : w.heap.size + 4 ≤ g) : WiB w w' vN vH x L :=
  ⟨h.1.grown hg h.1.size (fun k hk => by injection hk with hk; omega), blk_grown h.2.1 hg (by simp; omega), blk_grown h.2.2.1 hg (by simp; omega), blk_grown h.2.2.2.1 hg (by simp; omega), blk_grown h.2.2.2.2 hg (by simp; omega)⟩
theorem OwnR.block_type {w : World} {base : Nat} {t : TypeId} {vN vH : Value} {s : Sk} {es : List (En × Value)} (h : OwnSk w base t vN vH s es) {a g n cap : Nat} (e : wayV vH es a = .slice (some ⟨g, 0, none⟩) n cap) (a' : Nat) (ha : a ≤ s.nodes.length) : ∃ cs fr, w.heap[g]? = some (.cells cs 3 fr) := by
  have hO : OwnR w base 3 1 (wayV vH es a) ((s.ways a).map irow) := by
    cases a with
    | zero => exact h.head
    | succ k =>
      have hk : k < es.length := by rw [h.read.len]; omega
      have := h.nexts k es[k] (by simp [hk])
      simp only [wayV, List.getD]
      simpa [hk, Sk.ways] using this
  rw [e] at hO
  rcases hO.2.2 with ⟨q, _⟩ | ⟨g', cap', cur, q, _, hh, _⟩
  · simp at q
  · simp only [Value.slice.injEq, Option.some.injEq, Addr.mk.injEq] at q
    obtain ⟨⟨rfl, _⟩, _⟩ := q
    exact ⟨_, _, hh⟩
theorem arrC_get (L : List Nat) (l : Nat) (h : l < L.length) : (arrC L)[l]? = some (.int .i64 ((L.getD l 0 : Nat) : Int)) := by
  simp [arrC, natV, List.getD, h]
theorem ownBlock_ne {v : Value} {r : Nat} (h : ∀ g, v.ownBlock = some g → g ≠ r) : v.ownBlock = none ∨ v.ownBlock ≠ some r := by
  cases q : v.ownBlock with
  | none => exact .inl rfl
  | some g => exact .inr (fun e => h g q (by injection e))
theorem with_step {w' : World} {base T h : Nat} {aM aG : Option Addr} {n cM HLn cG : Nat} {c : Sk} {es' : List (En × Value)} {nx : List Int} (HO : OpenK w' base T 124 39 (.slice aM n cM) (.slice aG HLn cG) c es') (HX : OwnR w' base 3 1 (.slice (some ⟨T + 1, 0, none⟩) h h) (nx.map irow))
    (hnl : nx.length = h) (hne : (∀ g, Value.ownBlock (.slice aG HLn cG) = some g → g ≠ T + 1) ∧ (∀ p ∈ es', ∀ g, Value.ownBlock p.2 = some g → g ≠ T + 1)) (a i : Nat) (ha : a ≤ c.nodes.length) (hi : i < (c.ways a).length) (hih : i < h) (v : Int) :
    ∃ g cap, wayV (.slice aG HLn cG) es' a = .slice (some ⟨g, 0, none⟩) (c.ways a).length cap ∧ base ≤ g ∧ g ≠ T + 1 ∧ w'.cell? ⟨g, i, none⟩ = some (.int .i64 (c.way a i)) ∧ w'.frozen? ⟨T + 1, i, none⟩ = false ∧ w'.cell? ⟨T + 1, i, none⟩ = some (.int .i64 (nx.getD i 0)) ∧
      (w'.setCell ⟨T + 1, i, none⟩ (.int .i64 (c.way a i))).cell? ⟨g, i, none⟩ = some (.int .i64 (c.way a i)) ∧ (w'.setCell ⟨T + 1, i, none⟩ (.int .i64 (c.way a i))).frozen? ⟨g, i, none⟩ = false ∧
      OpenK ((w'.setCell ⟨T + 1, i, none⟩ (.int .i64 (c.way a i))).setCell ⟨g, i, none⟩ (.int .i64 v)) base T 124 39 (.slice aM n cM) (.slice aG HLn cG) (c.set a i v) es' ∧
      OwnR ((w'.setCell ⟨T + 1, i, none⟩ (.int .i64 (c.way a i))).setCell ⟨g, i, none⟩ (.int .i64 v)) base 3 1 (.slice (some ⟨T + 1, 0, none⟩) h h) ((nx.set i (c.way a i)).map irow) ∧
      w'.grownBy (w'.setCell ⟨T + 1, i, none⟩ (.int .i64 (c.way a i))) (some (T + 1)) ∧ (w'.setCell ⟨T + 1, i, none⟩ (.int .i64 (c.way a i))).grownBy ((w'.setCell ⟨T + 1, i, none⟩ (.int .i64 (c.way a i))).setCell ⟨g, i, none⟩ (.int .i64 v)) (some g) := by
  have hs := HX.set (by simp [hnl]) i hih 0 (by omega) (.int .i64 (c.way a i))
  rw [irow_set _ _ _ (by omega)] at hs
  simp only [Nat.mul_one, Nat.add_zero] at hs
  obtain ⟨hX1, hG1, hF1⟩ := hs
  have O1 : OwnSk (w'.setCell ⟨T + 1, i, none⟩ (.int .i64 (c.way a i))) base 124 (.slice aM n cM) (.slice aG HLn cG) c es' := by
    refine HO.2.far hG1 ?_ (ownBlock_ne hne.1) (fun p hp => ownBlock_ne (hne.2 p hp))
    have := own_own_ne HO.2.nodes.2 HX.2 (by decide)
    simpa [Value.ownBlock] using this
  obtain ⟨g0, cap0, e0, _, _, c0, _⟩ := HO.2.set (by decide) a ha i hi
  obtain ⟨g, cap, e1, hb, _, c1, f1, hset⟩ := O1.set (by decide) a ha i hi
  have eg : g0 = g := by
    rw [e0] at e1
    simp only [Value.slice.injEq, Option.some.injEq, Addr.mk.injEq] at e1
    exact e1.1.1
  subst eg
  have hgT : g0 ≠ T + 1 := by
    cases a with
    | zero =>
      refine hne.1 g0 ?_
      simp only [wayV] at e0
      rw [e0]
      rfl
    | succ k =>
      have hk : k < es'.length := by rw [HO.2.read.len]; omega
      refine hne.2 es'[k] (by simp) g0 ?_
      have : wayV (.slice aG HLn cG) es' (k + 1) = es'[k].2 := by simp [wayV, List.getD, hk]
      rw [← this, e0]
      rfl
  have hcx : w'.cell? ⟨T + 1, i, none⟩ = some (.int .i64 (nx.getD i 0)) := by
    have hR : IntsR w' (.slice (some ⟨T + 1, 0, none⟩) h h) nx := Rws.own HX
    obtain ⟨b, off, cp, n', e2, hn', hc'⟩ := hR.at i (by omega)
    simp only [Value.slice.injEq, Option.some.injEq, Addr.mk.injEq] at e2
    obtain ⟨⟨rfl, rfl, _⟩, _⟩ := e2
    simpa [List.getD, hn'] using hc'
  have h2 := hset v
  refine ⟨g0, cap0, e0, hb, hgT, c0, hF1, hcx, c1, f1, ⟨?_, h2.1⟩, ?_, hG1, h2.2⟩
  · have bT1 := blk_grown HO.1 hG1 (by simp)
    refine blk_grown bT1 h2.2 ?_
    intro q
    injection q with q
    subst q
    have := (OwnR.block_type O1 e1 a ha)
    rw [bT1] at this
    obtain ⟨cs, fr, e3⟩ := this
    simp at e3
  · refine hX1.far h2.2 (.inr ?_)
    simp only [Value.ownBlock]
    intro q
    injection q with q
    exact hgT q.symm
set_option maxHeartbeats 4000000 in
set_option maxRecDepth 100000 in
theorem with_any (s : Sk) (es : List (En × Value)) (vN vH : Value) (x : En) (h : Nat) (a0 a1 a2 a3 a4 a5 a6 a7 : Nat) (w : World) (hV : SkE w vN vH s es) (hg : Good s) (h1 : 1 ≤ h) (h8 : h ≤ 8) (hL : ∀ l, l < 8 → CutAt s s.ord x l ([a0, a1, a2, a3, a4, a5, a6, a7].getD l 0)) (hn : s.nodes.length < 4096) :
    Calls Tryz.prog 34 #[.agg #[vN, vH], enV x, .int .i64 (h : Int), .agg #[natV a0, natV a1, natV a2, natV a3, natV a4, natV a5, natV a6, natV a7]] w fun e w' => ∃ vN' vH' es', e = .returned (.agg #[vN', vH']) ∧ Hid (OwnSk w' w.heap.size 124 vN' vH' (putF s x (fun l => [a0, a1, a2, a3, a4, a5, a6, a7].getD l 0) h) es') ∧ Hid (Below w.heap.size w w') := by
  obtain ⟨⟨aN, cN, rfl⟩, ⟨aH, cH, rfl⟩⟩ := hV.form
  have HV : Hid (SkE w (.slice aN s.nodes.length cN) (.slice aH s.head.length cH) s es) := hV
  have HG : Hid (Good s) := hg
  have HL : Hid (∀ l, l < 8 → CutAt s s.ord x l ([a0, a1, a2, a3, a4, a5, a6, a7].getD l 0)) := hL
  clear hV hg hL
  unfold enV natV
  obtain ⟨wa, hwa⟩ : ∃ wa, wa = (((w.alloc (.cells #[.slice aN s.nodes.length cN, .slice aH s.head.length cH] 39)).alloc (enObj x)).alloc (.cells #[.int .i64 (a0 : Int), .int .i64 (a1 : Int), .int .i64 (a2 : Int), .int .i64 (a3 : Int), .int .i64 (a4 : Int), .int .i64 (a5 : Int), .int .i64 (a6 : Int), .int .i64 (a7 : Int)] 89)).alloc (.cells #[.slice none 0 0, .slice none 0 0] 39) := ⟨_, rfl⟩
  have HWA : Hid ((((w.alloc (.cells #[.slice aN s.nodes.length cN, .slice aH s.head.length cH] 39)).alloc (enObj x)).alloc (.cells #[.int .i64 (a0 : Int), .int .i64 (a1 : Int), .int .i64 (a2 : Int), .int .i64 (a3 : Int), .int .i64 (a4 : Int), .int .i64 (a5 : Int), .int .i64 (a6 : Int), .int .i64 (a7 : Int)] 89)).alloc (.cells #[.slice none 0 0, .slice none 0 0] 39) = wa) := hwa.symm
  have HBA : Hid (WiB w wa (.slice aN s.nodes.length cN) (.slice aH s.head.length cH) x [a0, a1, a2, a3, a4, a5, a6, a7]) := by
    have q := blk4 w (.cells #[.slice aN s.nodes.length cN, .slice aH s.head.length cH] 39) (enObj x) (.cells #[.int .i64 (a0 : Int), .int .i64 (a1 : Int), .int .i64 (a2 : Int), .int .i64 (a3 : Int), .int .i64 (a4 : Int), .int .i64 (a5 : Int), .int .i64 (a6 : Int), .int .i64 (a7 : Int)] 89) (.cells #[.slice none 0 0, .slice none 0 0] 39)
    rw [← hwa] at q
    refine ⟨by rw [hwa]; exact up_al (up_al (up_al (up_al (Below.refl _ _) _) _) _) _, q⟩
  unfold enObj at HWA
  have p0 : wa.cell? ⟨w.heap.size, 0, none⟩ = some (.slice aN s.nodes.length cN) := blk_cell HBA.out.2.1 0 _ rfl
  have p1 : wa.cell? ⟨w.heap.size, 1, none⟩ = some (.slice aH s.head.length cH) := blk_cell HBA.out.2.1 1 _ rfl
  have HC := copiedS_any s es _ _ wa (HV.out.up HBA.out.1) (by omega) HG.out.head HG.out.high8
  have HCH : Hid (Calls Tryz.prog 57 #[.agg #[.slice aN s.nodes.length cN, .slice aH s.head.length cH]] wa fun e w' => ∃ vN' vH' es', e = .returned (.agg #[vN', vH']) ∧ Hid (OwnSk w' wa.heap.size 124 vN' vH' s es') ∧ Hid (Below wa.heap.size wa w')) := HC
  clear hwa HC
  go_enter Tryz.func34, Tryz.ntmps34
  go_upto_region 1 with fail
  rw [HWA.out]
  clear HWA
  go_wp2_with fail
  refine HCH.out.mono ?_
  rintro e wc ⟨vN', vH', es', rfl, OC, UC⟩
  obtain ⟨⟨aM, cM, rfl⟩, ⟨aG, cG, rfl⟩⟩ := OC.out.read.form
  have hmk := mk_ints h h8
  have HN63 : (s.nodes.length : Int) + 1 ≤ 9223372036854775807 := by omega
  obtain ⟨wd, hwd⟩ : ∃ wd, wd = wc.alloc (.cells #[.slice aM s.nodes.length cM, .slice aG s.head.length cG] 39) := ⟨_, rfl⟩
  obtain ⟨wn, hwn⟩ : ∃ wn, wn = wd.alloc (.cells (zeroC h) 3) := ⟨_, rfl⟩
  have HWN : Hid ((wc.alloc (.cells #[.slice aM s.nodes.length cM, .slice aG s.head.length cG] 39)).alloc (.cells (zeroC h) 3) = wn) := by unfold Hid; rw [hwn, hwd]
  have UD : Hid (Below wc.heap.size wc wd) := by rw [hwd]; exact up_alloc _ _
  have UN : Hid (Below wd.heap.size wd wn) := by rw [hwn]; exact up_alloc _ _
  have HSD : wd.heap.size = wc.heap.size + 1 := by rw [hwd]; simp
  have ON : OwnR wn wd.heap.size 3 1 (.slice (some ⟨wd.heap.size, 0, none⟩) h h) ((List.replicate h (0 : Int)).map irow) := by rw [hwn]; exact own_made wd h h8
  have BT : wd.heap[wc.heap.size]? = some (.cells #[.slice aM s.nodes.length cM, .slice aG s.head.length cG] 39) := by rw [hwd]; exact blk_new _ _
  have SZ0 : w.heap.size + 4 ≤ wa.heap.size := by have := blk_lt HBA.out.2.2.2.2; omega
  have SZ1 : wa.heap.size ≤ wc.heap.size := UC.out.size
  have HI : Hid (OpenK wn (w.heap.size + 4) wc.heap.size 124 39 (.slice aM s.nodes.length cM) (.slice aG s.head.length cG) s es' ∧ OwnR wn (w.heap.size + 4) 3 1 (.slice (some ⟨wc.heap.size + 1, 0, none⟩) h h) ((List.replicate h (0 : Int)).map irow) ∧ WiB w wn (.slice aN s.nodes.length cN) (.slice aH s.head.length cH) x [a0, a1, a2, a3, a4, a5, a6, a7] ∧ (∀ g, Value.ownBlock (.slice aG s.head.length cG) = some g → g ≠ wc.heap.size + 1) ∧ (∀ p ∈ es', ∀ g, Value.ownBlock p.2 = some g → g ≠ wc.heap.size + 1)) := by
    have OC2 := OC.out.mono SZ0
    refine ⟨⟨blk_up BT UN.out, (OC2.up UD.out).up UN.out⟩, ?_, HBA.out.up (up_trans UC.out (up_trans UD.out UN.out)), ?_, ?_⟩
    · have := ON.mono (show w.heap.size + 4 ≤ wd.heap.size by omega)
      rw [HSD] at this
      exact this
    · intro g hg
      have := (OC2.head.2.lt g hg).2
      omega
    · intro p hp g hg
      obtain ⟨k, hk⟩ := List.mem_iff_getElem?.1 hp
      have := ((OC2.nexts k p hk).2.lt g hg).2
      omega
  have HTs : Hid (w.heap.size + 4 ≤ wc.heap.size) := by unfold Hid; omega
  generalize hHL : s.head.length = HLn at *
  have HHL : Hid (s.head.length = HLn) := hHL
  clear hwd hwn UD UN ON BT OC UC HBA HCH p0 p1 SZ0 SZ1 hHL HSD
  go_wp2_with fail
  rw [HWN.out]
  clear HWN hmk
  generalize hT : wc.heap.size = T at *
  clear hT
  go_loopw [23] (fun q wr => ∃ (i : Nat), i ≤ h ∧ q = .int .i64 (i : Int) ∧ Hid (OpenK wr (w.heap.size + 4) T 124 39 (.slice aM s.nodes.length cM) (.slice aG HLn cG) (linkF s (fun l => [a0, a1, a2, a3, a4, a5, a6, a7].getD l 0) ((s.nodes.length : Int) + 1) i) es' ∧ OwnR wr (w.heap.size + 4) 3 1 (.slice (some ⟨T + 1, 0, none⟩) h h) ((nextF s (fun l => [a0, a1, a2, a3, a4, a5, a6, a7].getD l 0) i ++ List.replicate (h - i) (0 : Int)).map irow) ∧ WiB w wr (.slice aN s.nodes.length cN) (.slice aH HLn cH) x [a0, a1, a2, a3, a4, a5, a6, a7])) (fun q _ => h - (intOf q).toNat)
  case atStart => exact ⟨0, by omega, rfl, HI.out.1, by simpa [nextF] using HI.out.2.1, HI.out.2.2.1⟩
  case round =>
    have HNE : Hid ((∀ g, Value.ownBlock (.slice aG HLn cG) = some g → g ≠ T + 1) ∧ (∀ p ∈ es', ∀ g, Value.ownBlock p.2 = some g → g ≠ T + 1)) := HI.out.2.2.2
    clear HI
    obtain ⟨i, hi, rfl, HO⟩ := hrel
    by_cases hlt : i < h
    · have hlt' : (i : Int) < (h : Int) := by omega
      have hi8 : i < 8 := by omega
      have hi8' : (i : Int) < 8 := by omega
      have q0 := blk_cell HO.out.2.2.2.2.2.1 i _ (arrC_get [a0, a1, a2, a3, a4, a5, a6, a7] i hi8)
      have HCO : Hid (CutOn s s.ord x i ([a0, a1, a2, a3, a4, a5, a6, a7].getD i 0)) := (HL.out i hi8).on
      have HEQ : Hid (linkF s (fun l => [a0, a1, a2, a3, a4, a5, a6, a7].getD l 0) ((s.nodes.length : Int) + 1) (i + 1) = (linkF s (fun l => [a0, a1, a2, a3, a4, a5, a6, a7].getD l 0) ((s.nodes.length : Int) + 1) i).set ([a0, a1, a2, a3, a4, a5, a6, a7].getD i 0) i ((s.nodes.length : Int) + 1)) := rfl
      have HNX : Hid (nextF s (fun l => [a0, a1, a2, a3, a4, a5, a6, a7].getD l 0) (i + 1) = nextF s (fun l => [a0, a1, a2, a3, a4, a5, a6, a7].getD l 0) i ++ [s.way ([a0, a1, a2, a3, a4, a5, a6, a7].getD i 0) i]) := by
        unfold Hid nextF
        rw [List.range_succ, List.map_append]
        rfl
      have HWY : Hid ((linkF s (fun l => [a0, a1, a2, a3, a4, a5, a6, a7].getD l 0) ((s.nodes.length : Int) + 1) i).way ([a0, a1, a2, a3, a4, a5, a6, a7].getD i 0) i = s.way ([a0, a1, a2, a3, a4, a5, a6, a7].getD i 0) i) := linkF_way _ _ _ _ _ _ (Nat.le_refl _)
      have HWL : Hid (((linkF s (fun l => [a0, a1, a2, a3, a4, a5, a6, a7].getD l 0) ((s.nodes.length : Int) + 1) i).ways ([a0, a1, a2, a3, a4, a5, a6, a7].getD i 0)).length = (s.ways ([a0, a1, a2, a3, a4, a5, a6, a7].getD i 0)).length) := linkF_ways _ _ _ _ _
      have HLN : Hid ((linkF s (fun l => [a0, a1, a2, a3, a4, a5, a6, a7].getD l 0) ((s.nodes.length : Int) + 1) i).nodes.length = s.nodes.length) := linkF_len _ _ _ _
      have HNL : Hid ((nextF s (fun l => [a0, a1, a2, a3, a4, a5, a6, a7].getD l 0) i).length = i) := by simp [Hid, nextF]
      generalize hA : [a0, a1, a2, a3, a4, a5, a6, a7].getD i 0 = A at *
      have HAB : Hid (A ≤ s.nodes.length) := HCO.out.bound (fun k hk => (HG.out.mem k).1 hk)
      have HWS : Hid (i < (s.ways A).length) := HCO.out.ways HG.out.head hi8
      clear hA
      have HST : Hid (∀ w', OpenK w' (w.heap.size + 4) T 124 39 (.slice aM s.nodes.length cM) (.slice aG HLn cG) (linkF s (fun l => [a0, a1, a2, a3, a4, a5, a6, a7].getD l 0) ((s.nodes.length : Int) + 1) i) es' ∧ OwnR w' (w.heap.size + 4) 3 1 (.slice (some ⟨T + 1, 0, none⟩) h h) ((nextF s (fun l => [a0, a1, a2, a3, a4, a5, a6, a7].getD l 0) i ++ List.replicate (h - i) (0 : Int)).map irow) ∧ WiB w w' (.slice aN s.nodes.length cN) (.slice aH HLn cH) x [a0, a1, a2, a3, a4, a5, a6, a7] →
          ∃ g cap, wayV (.slice aG HLn cG) es' A = .slice (some ⟨g, 0, none⟩) (s.ways A).length cap ∧ w'.cell? ⟨g, i, none⟩ = some (.int .i64 (s.way A i)) ∧ w'.frozen? ⟨T + 1, i, none⟩ = false ∧ (∃ z, w'.cell? ⟨T + 1, i, none⟩ = some (.int .i64 z)) ∧ (w'.setCell ⟨T + 1, i, none⟩ (.int .i64 (s.way A i))).cell? ⟨g, i, none⟩ = some (.int .i64 (s.way A i)) ∧ (w'.setCell ⟨T + 1, i, none⟩ (.int .i64 (s.way A i))).frozen? ⟨g, i, none⟩ = false ∧
            Hid (OpenK ((w'.setCell ⟨T + 1, i, none⟩ (.int .i64 (s.way A i))).setCell ⟨g, i, none⟩ (.int .i64 ((s.nodes.length : Int) + 1))) (w.heap.size + 4) T 124 39 (.slice aM s.nodes.length cM) (.slice aG HLn cG) (linkF s (fun l => [a0, a1, a2, a3, a4, a5, a6, a7].getD l 0) ((s.nodes.length : Int) + 1) (i + 1)) es' ∧ OwnR ((w'.setCell ⟨T + 1, i, none⟩ (.int .i64 (s.way A i))).setCell ⟨g, i, none⟩ (.int .i64 ((s.nodes.length : Int) + 1))) (w.heap.size + 4) 3 1 (.slice (some ⟨T + 1, 0, none⟩) h h) ((nextF s (fun l => [a0, a1, a2, a3, a4, a5, a6, a7].getD l 0) (i + 1) ++ List.replicate (h - (i + 1)) (0 : Int)).map irow) ∧ WiB w ((w'.setCell ⟨T + 1, i, none⟩ (.int .i64 (s.way A i))).setCell ⟨g, i, none⟩ (.int .i64 ((s.nodes.length : Int) + 1))) (.slice aN s.nodes.length cN) (.slice aH HLn cH) x [a0, a1, a2, a3, a4, a5, a6, a7])) := by
        rintro w' ⟨k1, k2, k3⟩
        have z := with_step k1 k2 (by rw [List.length_append, HNL.out, List.length_replicate]; omega) HNE.out A i (by rw [HLN.out]; exact HAB.out) (by rw [HWL.out]; exact HWS.out) hlt ((s.nodes.length : Int) + 1)
        rw [HWY.out, HWL.out] at z
        obtain ⟨g, cap, e1, e2, e3, e4, e5, e6, e7, e8, e9, e10, e11, e12⟩ := z
        refine ⟨g, cap, e1, e4, e5, ⟨_, e6⟩, e7, e8, ?_, ?_, ?_⟩
        · rw [HEQ.out]; exact e9
        · have eL : (nextF s (fun l => [a0, a1, a2, a3, a4, a5, a6, a7].getD l 0) i ++ List.replicate (h - i) (0 : Int)).set i (s.way A i) = nextF s (fun l => [a0, a1, a2, a3, a4, a5, a6, a7].getD l 0) (i + 1) ++ List.replicate (h - (i + 1)) (0 : Int) := by
            rw [HNX.out, List.set_append_right _ _ (by rw [HNL.out]; exact Nat.le_refl _), HNL.out, Nat.sub_self, show h - i = (h - (i + 1)) + 1 by omega, List.replicate_succ, List.set_cons_zero]
            simp
          rw [← eL]
          exact e10
        · exact (k3.set e11 (by have := HTs.out; omega)).set e12 e2
      have HOO : Hid (OpenK wr (w.heap.size + 4) T 124 39 (.slice aM s.nodes.length cM) (.slice aG HLn cG) (linkF s (fun l => [a0, a1, a2, a3, a4, a5, a6, a7].getD l 0) ((s.nodes.length : Int) + 1) i) es' ∧ OwnR wr (w.heap.size + 4) 3 1 (.slice (some ⟨T + 1, 0, none⟩) h h) ((nextF s (fun l => [a0, a1, a2, a3, a4, a5, a6, a7].getD l 0) i ++ List.replicate (h - i) (0 : Int)).map irow) ∧ WiB w wr (.slice aN s.nodes.length cN) (.slice aH HLn cH) x [a0, a1, a2, a3, a4, a5, a6, a7]) := HO.out
      obtain ⟨g, cap, eW, _⟩ := HST.out wr HOO.out
      have HWV : Hid (wayV (.slice aG HLn cG) es' A = .slice (some ⟨g, 0, none⟩) (s.ways A).length cap) := eW
      have t0 : wr.cell? ⟨T, 0, none⟩ = some (.slice aM s.nodes.length cM) := blk_cell HOO.out.1.1 0 _ rfl
      have t1 : wr.cell? ⟨T, 1, none⟩ = some (.slice aG HLn cG) := blk_cell HOO.out.1.1 1 _ rfl
      have HC := waysOf_any (linkF s (fun l => [a0, a1, a2, a3, a4, a5, a6, a7].getD l 0) ((s.nodes.length : Int) + 1) i) es' (.slice aM s.nodes.length cM) (.slice aG HLn cG) wr.drew (HOO.out.1.2.read.up (up_dr (Below.refl _ _))) A (by rw [HLN.out]; exact HAB.out)
      rw [eW] at HC
      generalize hLW : (s.ways A).length = LW at *
      have hiw : (i : Int) < (LW : Int) := by have := HWS.out; omega
      have HK : Hid (Calls Tryz.prog 56 #[.agg #[.slice aM s.nodes.length cM, .slice aG HLn cG], .int .i64 (A : Int)] wr.drew fun e w' => e = .returned (.slice (some ⟨g, 0, none⟩) LW cap) ∧ w'.cell? ⟨T, 0, none⟩ = some (.slice aM s.nodes.length cM) ∧ w'.cell? ⟨T, 1, none⟩ = some (.slice aG HLn cG) ∧ w'.cell? ⟨w.heap.size + 2, i, none⟩ = some (.int .i64 (A : Int)) ∧ Hid (OpenK w' (w.heap.size + 4) T 124 39 (.slice aM s.nodes.length cM) (.slice aG HLn cG) (linkF s (fun l => [a0, a1, a2, a3, a4, a5, a6, a7].getD l 0) ((s.nodes.length : Int) + 1) i) es' ∧ OwnR w' (w.heap.size + 4) 3 1 (.slice (some ⟨T + 1, 0, none⟩) h h) ((nextF s (fun l => [a0, a1, a2, a3, a4, a5, a6, a7].getD l 0) i ++ List.replicate (h - i) (0 : Int)).map irow) ∧ WiB w w' (.slice aN s.nodes.length cN) (.slice aH HLn cH) x [a0, a1, a2, a3, a4, a5, a6, a7])) := by
        refine HC.mono ?_
        rintro e w' ⟨rfl, rfl⟩
        have hb2 : Below wr.heap.size wr (wr.drew.alloc (.cells #[.slice aM s.nodes.length cM, .slice aG HLn cG] 39)) := up_al (up_dr (Below.refl _ _)) _
        have lt : ∀ {bb o : Nat} {q : Value}, wr.cell? ⟨bb, o, none⟩ = some q → (wr.drew.alloc (.cells #[.slice aM s.nodes.length cM, .slice aG HLn cG] 39)).cell? ⟨bb, o, none⟩ = some q := fun hq => (hb2.cell (World.block_lt_of_cell? wr _ hq)).trans hq
        exact ⟨rfl, lt t0, lt t1, lt q0, HOO.out.1.up hb2, HOO.out.2.1.up hb2, HOO.out.2.2.up hb2⟩
      clear HC eW HO HOO HEQ HNX HWY HWL HLN HNL HCO
      go_wp2_with fail
      go_region_held3 (fun w' => w'.cell? ⟨T, 0, none⟩ = some (.slice aM s.nodes.length cM) ∧ w'.cell? ⟨T, 1, none⟩ = some (.slice aG HLn cG) ∧ w'.cell? ⟨w.heap.size + 2, i, none⟩ = some (.int .i64 (A : Int))) (first | with_reducible exact ⟨k0, k1, k2⟩ | with_reducible exact ⟨t0, t1, q0⟩ | (simp [go_sem, t0, t1, q0]; done)) (first
        | (go_at_call 56; with_reducible refine HK.out.mono ?_; rintro e w' ⟨rfl, k0, k1, k2, hs⟩))
      all_goals
        obtain ⟨g', cap', eW', c1, f1, ⟨z, c2⟩, c3, f2, HZ⟩ := HST.out w' hs.out
        rw [HWV.out] at eW'
        simp only [Value.slice.injEq, Option.some.injEq, Addr.mk.injEq] at eW'
        obtain ⟨⟨rfl, _⟩, _, rfl⟩ := eW'
        go_wp2_with fail
        exact ⟨⟨i + 1, by omega, by go_num, HZ⟩, by simp [intOf]; omega⟩
    · obtain rfl : i = h := by omega
      have t0 : wr.cell? ⟨T, 0, none⟩ = some (.slice aM s.nodes.length cM) := blk_cell HO.out.1.1 0 _ rfl
      have t1 : wr.cell? ⟨T, 1, none⟩ = some (.slice aG HLn cG) := blk_cell HO.out.1.1 1 _ rfl
      have x0 : wr.cell? ⟨w.heap.size + 1, 0, none⟩ = some (.string x.key) := blk_cell HO.out.2.2.2.2.1 0 _ rfl
      have x1 : wr.cell? ⟨w.heap.size + 1, 1, none⟩ = some (.int .i64 x.seq) := blk_cell HO.out.2.2.2.2.1 1 _ rfl
      have x2 : wr.cell? ⟨w.heap.size + 1, 2, none⟩ = some (.int .i64 x.kind) := blk_cell HO.out.2.2.2.2.1 2 _ rfl
      have x3 : wr.cell? ⟨w.heap.size + 1, 3, none⟩ = some (.string x.val) := blk_cell HO.out.2.2.2.2.1 3 _ rfl
      have HELN : Hid (es'.length = s.nodes.length) := by
        have := HO.out.1.2.read.len
        rw [linkF_len] at this
        exact this
      have HA4 : Hid (((es'.map nrow).length + [nrow (x, Value.slice (some ⟨T + 1, 0, none⟩) i i)].length + ((es'.map nrow).length + [nrow (x, Value.slice (some ⟨T + 1, 0, none⟩) i i)].length) / 4 + 192) * 72 ≤ 281474976710656 ∧ (es'.map nrow).length + [nrow (x, Value.slice (some ⟨T + 1, 0, none⟩) i i)].length ≤ maxLen) := by
        have := HELN.out
        unfold Hid maxLen; simp only [List.length_map, List.length_cons, List.length_nil]; omega
      have HSZ : Hid (w.heap.size + 4 ≤ (wr.alloc (.cells #[.string x.key, .int .i64 x.seq, .int .i64 x.kind, .string x.val, .slice (some ⟨T + 1, 0, none⟩) i i] 124)).heap.size) := by
        have := blk_lt HO.out.1.1
        have h2 := (up_alloc wr (.cells #[.string x.key, .int .i64 x.seq, .int .i64 x.kind, .string x.val, .slice (some ⟨T + 1, 0, none⟩) i i] 124)).size
        have := HTs.out
        unfold Hid; omega
      have HOA : Hid (OpenK (wr.alloc (.cells #[.string x.key, .int .i64 x.seq, .int .i64 x.kind, .string x.val, .slice (some ⟨T + 1, 0, none⟩) i i] 124)) (w.heap.size + 4) T 124 39 (.slice aM s.nodes.length cM) (.slice aG HLn cG) (linkF s (fun l => [a0, a1, a2, a3, a4, a5, a6, a7].getD l 0) ((s.nodes.length : Int) + 1) i) es' ∧ OwnR (wr.alloc (.cells #[.string x.key, .int .i64 x.seq, .int .i64 x.kind, .string x.val, .slice (some ⟨T + 1, 0, none⟩) i i] 124)) (w.heap.size + 4) 3 1 (.slice (some ⟨T + 1, 0, none⟩) i i) ((nextF s (fun l => [a0, a1, a2, a3, a4, a5, a6, a7].getD l 0) i).map irow) ∧ WiB w (wr.alloc (.cells #[.string x.key, .int .i64 x.seq, .int .i64 x.kind, .string x.val, .slice (some ⟨T + 1, 0, none⟩) i i] 124)) (.slice aN s.nodes.length cN) (.slice aH HLn cH) x [a0, a1, a2, a3, a4, a5, a6, a7]) := by
        refine ⟨HO.out.1.up (up_alloc _ _), ?_, HO.out.2.2.up (up_alloc _ _)⟩
        have := HO.out.2.1
        rw [Nat.sub_self, List.replicate_zero, List.append_nil] at this
        exact this.up (up_alloc _ _)
      have HRM : Hid (Rws 5 (wr.alloc (.cells #[.string x.key, .int .i64 x.seq, .int .i64 x.kind, .string x.val, .slice (some ⟨T + 1, 0, none⟩) i i] 124)) (.slice (some ⟨wr.heap.size, 0, none⟩) 1 1) [nrow (x, .slice (some ⟨T + 1, 0, none⟩) i i)]) := Rws.made (sz := 5) wr 124 [nrow (x, .slice (some ⟨T + 1, 0, none⟩) i i)] (by simp [nrow, enRow]) (by simp [maxLen])
      clear HO
      go_wp2_with (at_builtin; refine wpList_append_rows _ rfl _ _ 36 124 _ 5 72 rfl Tryz.underlying36 Tryz.info124 rfl (by decide) (w.heap.size + 4) (.slice aM s.nodes.length cM) (es'.map nrow) rfl HOA.out.1.2.nodes (.slice (some ⟨wr.heap.size, 0, none⟩) 1 1) [nrow (x, .slice (some ⟨T + 1, 0, none⟩) i i)] rfl HRM.out (nrow_one (w := w) x _ _ _) HA4.out.1 HA4.out.2 HSZ.out ?_)
      intro v6 w6 o6 g6
      obtain ⟨a9, c9, e6, _, _⟩ := (Rws.own o6).len
      simp only [List.length_append, List.length_map, List.length_cons, List.length_nil] at e6
      rw [HELN.out] at e6
      subst e6
      have Z := HOA.out.1.2.addRow HOA.out.1.1 (by decide) (by decide) (by decide) (vI := .slice (some ⟨T + 1, 0, none⟩) i i) (y := x) (nx := nextF s (fun l => [a0, a1, a2, a3, a4, a5, a6, a7].getD l 0) i) HOA.out.2.1 ⟨.inr (fun q => HNE.out.1 (T + 1) q rfl), fun p hp => .inr (fun q => HNE.out.2 p hp (T + 1) q rfl)⟩ g6 o6
      have HZ : Hid (OwnSk (w6.setCell ⟨T, 0, none⟩ (.slice a9 (s.nodes.length + 1) c9)) (w.heap.size + 4) 124 (.slice a9 (s.nodes.length + 1) c9) (.slice aG HLn cG) (putF s x (fun l => [a0, a1, a2, a3, a4, a5, a6, a7].getD l 0) i) (es' ++ [(x, .slice (some ⟨T + 1, 0, none⟩) i i)])) := Z.2.2.1
      have HB : Hid ((w6.setCell ⟨T, 0, none⟩ (.slice a9 (s.nodes.length + 1) c9)).heap[T]? = some (.cells #[.slice a9 (s.nodes.length + 1) c9, .slice aG HLn cG] 39)) := Z.2.1
      have HBe : Hid (Below (w.heap.size + 4) (wr.alloc (.cells #[.string x.key, .int .i64 x.seq, .int .i64 x.kind, .string x.val, .slice (some ⟨T + 1, 0, none⟩) i i] 124)) (w6.setCell ⟨T, 0, none⟩ (.slice a9 (s.nodes.length + 1) c9))) := Z.2.2.2 (w.heap.size + 4) (Nat.le_refl _) HTs.out HSZ.out
      have HW3 : Hid ((w6.setCell ⟨T, 0, none⟩ (.slice a9 (s.nodes.length + 1) c9)).heap[w.heap.size + 3]? = some (.cells #[.slice none 0 0, .slice none 0 0] 39)) := (HBe.out.block (w.heap.size + 3) (by omega)).trans HOA.out.2.2.2.2.2.2
      have s0 : w6.cell? ⟨T, 0, none⟩ = some (.slice aM s.nodes.length cM) := blk_cell Z.1 0 _ rfl
      have s1 : w6.frozen? ⟨T, 0, none⟩ = false := blk_frozen Z.1 0
      have s2 : (w6.setCell ⟨T, 0, none⟩ (.slice a9 (s.nodes.length + 1) c9)).cell? ⟨T, 0, none⟩ = some (.slice a9 (s.nodes.length + 1) c9) := blk_cell HB.out 0 _ rfl
      have s3 : (w6.setCell ⟨T, 0, none⟩ (.slice a9 (s.nodes.length + 1) c9)).cell? ⟨T, 1, none⟩ = some (.slice aG HLn cG) := blk_cell HB.out 1 _ rfl
      have s3' : w6.cell? ⟨T, 1, none⟩ = some (.slice aG HLn cG) := blk_cell Z.1 1 _ rfl
      have s4 : (w6.setCell ⟨T, 0, none⟩ (.slice a9 (s.nodes.length + 1) c9)).cell? ⟨w.heap.size + 3, 0, none⟩ = some (.slice none 0 0) := blk_cell HW3.out 0 _ rfl
      have s5 : (w6.setCell ⟨T, 0, none⟩ (.slice a9 (s.nodes.length + 1) c9)).cell? ⟨w.heap.size + 3, 1, none⟩ = some (.slice none 0 0) := blk_cell HW3.out 1 _ rfl
      have s6 := fun k => blk_frozen HW3.out k
      have HUB : Hid (Below w.heap.size w (w6.setCell ⟨T, 0, none⟩ (.slice a9 (s.nodes.length + 1) c9))) := HOA.out.2.2.1.trans (Z.2.2.2 w.heap.size (by omega) (by have := HTs.out; omega) (by have := HSZ.out; omega))
      clear Z o6 g6
      go_wp2_with fail
      have g2 := set2_grown (w6.setCell ⟨T, 0, none⟩ (.slice a9 (s.nodes.length + 1) c9)) (w.heap.size + 3) (.slice a9 (s.nodes.length + 1) c9) (.slice aG HLn cG)
      refine bodyPost_ret (results_st rfl (.inl rfl) _ _ rfl (set2_blk HW3.out (.slice a9 (s.nodes.length + 1) c9) (.slice aG HLn cG))) rfl ?_
      refine ⟨_, _, _, rfl, (HZ.out.block HW3.out (by decide) (by decide) g2).mono (by omega), ?_⟩
      exact HUB.out.grown g2 HUB.out.size (fun k hk => by injection hk with hk; rw [← hk]; omega)
end Go.Proofs.YthiegmhplnbdlaaGreat
