/- Lists of chapter 7: Check and Put. -/
import Derived.Test.YtibjjhceiohmeaaNA
import Derived.Test.YtibjjhceiohmeaaNB
import Derived.Deep.CutRange

/- The program's joinedWith: a copy of a list with a version in its place. -/
namespace Go.Proofs.Ytibjjhceiohmeaa
open Go.RowKit
set_option linter.unusedVariables false
set_option linter.unusedSimpArgs false

/-- The boxes of joinedWith: the list, the version, the numbers, the result. -/
def WiB (w wr : World) (vN vH : Value) (x : En) (L : List Nat) : Prop :=
  Below w.heap.size w wr ∧ wr.heap[w.heap.size]? = some (.cells #[vN, vH] 85) ∧ wr.heap[w.heap.size + 1]? = some (enObj x) ∧ wr.heap[w.heap.size + 2]? = some (.cells (arrC L) 98) ∧ wr.heap[w.heap.size + 3]? = some (.cells #[.slice none 0 0, .slice none 0 0] 85)
theorem WiB.up {w wr w' : World} {vN vH : Value} {x : En} {L : List Nat} (h : WiB w wr vN vH x L) (hb : Below wr.heap.size wr w') : WiB w w' vN vH x L :=
  ⟨up_trans h.1 hb, blk_up h.2.1 hb, blk_up h.2.2.1 hb, blk_up h.2.2.2.1 hb, blk_up h.2.2.2.2 hb⟩
theorem WiB.set {w wr w' : World} {vN vH : Value} {x : En} {L : List Nat} {g : Nat} (h : WiB w wr vN vH x L) (hg : wr.grownBy w' (some g)) (h4 : w.heap.size + 4 ≤ g) : WiB w w' vN vH x L :=
  ⟨h.1.grown hg h.1.size (fun k hk => by injection hk with hk; omega), blk_grown h.2.1 hg (by simp; omega), blk_grown h.2.2.1 hg (by simp; omega), blk_grown h.2.2.2.1 hg (by simp; omega), blk_grown h.2.2.2.2 hg (by simp; omega)⟩

theorem OwnR.block_type {w : World} {base : Nat} {t : TypeId} {vN vH : Value} {s : Sk} {es : List (En × Value)} (h : OwnSk w base t vN vH s es) {a g n cap : Nat} (e : wayV vH es a = .slice (some ⟨g, 0, none⟩) n cap) (a' : Nat) (ha : a ≤ s.nodes.length) : ∃ cs fr, w.heap[g]? = some (.cells cs 3 fr) := by
  have hO : OwnR w base 3 1 (wayV vH es a) ((s.ways a).map irow) := by
    cases a with
    | zero => exact h.head
    | succ k =>
      have hk : k < es.length := by rw [h.read.len]; omega
      have := h.nexts k es[k] (by simp [hk])
      simp only [wayV, List.getD]
      simpa [hk, Sk.ways] using this
  rw [e] at hO
  rcases hO.2.2 with ⟨q, _⟩ | ⟨g', cap', cur, q, _, hh, _⟩
  · simp at q
  · simp only [Value.slice.injEq, Option.some.injEq, Addr.mk.injEq] at q
    obtain ⟨⟨rfl, _⟩, _⟩ := q
    exact ⟨_, _, hh⟩
theorem arrC_get (L : List Nat) (l : Nat) (h : l < L.length) : (arrC L)[l]? = some (.int .i64 ((L.getD l 0 : Nat) : Int)) := by
  simp [arrC, natV, List.getD, h]
theorem ownBlock_ne {v : Value} {r : Nat} (h : ∀ g, v.ownBlock = some g → g ≠ r) : v.ownBlock = none ∨ v.ownBlock ≠ some r := by
  cases q : v.ownBlock with
  | none => exact .inl rfl
  | some g => exact .inr (fun e => h g q (by injection e))
/-- One level: the new node's way is taken over, and the way ahead of it comes to it. -/
theorem with_step {w' : World} {base T h : Nat} {aM aG : Option Addr} {n cM HLn cG : Nat} {c : Sk} {es' : List (En × Value)} {nx : List Int} (HO : OpenK w' base T 108 85 (.slice aM n cM) (.slice aG HLn cG) c es') (HX : OwnR w' base 3 1 (.slice (some ⟨T + 1, 0, none⟩) h h) (nx.map irow))
    (hnl : nx.length = h) (hne : (∀ g, Value.ownBlock (.slice aG HLn cG) = some g → g ≠ T + 1) ∧ (∀ p ∈ es', ∀ g, Value.ownBlock p.2 = some g → g ≠ T + 1)) (a i : Nat) (ha : a ≤ c.nodes.length) (hi : i < (c.ways a).length) (hih : i < h) (v : Int) :
    ∃ g cap, wayV (.slice aG HLn cG) es' a = .slice (some ⟨g, 0, none⟩) (c.ways a).length cap ∧ base ≤ g ∧ g ≠ T + 1 ∧ w'.cell? ⟨g, i, none⟩ = some (.int .i64 (c.way a i)) ∧ w'.frozen? ⟨T + 1, i, none⟩ = false ∧ w'.cell? ⟨T + 1, i, none⟩ = some (.int .i64 (nx.getD i 0)) ∧
      (w'.setCell ⟨T + 1, i, none⟩ (.int .i64 (c.way a i))).cell? ⟨g, i, none⟩ = some (.int .i64 (c.way a i)) ∧ (w'.setCell ⟨T + 1, i, none⟩ (.int .i64 (c.way a i))).frozen? ⟨g, i, none⟩ = false ∧
      OpenK ((w'.setCell ⟨T + 1, i, none⟩ (.int .i64 (c.way a i))).setCell ⟨g, i, none⟩ (.int .i64 v)) base T 108 85 (.slice aM n cM) (.slice aG HLn cG) (c.set a i v) es' ∧
      OwnR ((w'.setCell ⟨T + 1, i, none⟩ (.int .i64 (c.way a i))).setCell ⟨g, i, none⟩ (.int .i64 v)) base 3 1 (.slice (some ⟨T + 1, 0, none⟩) h h) ((nx.set i (c.way a i)).map irow) ∧
      w'.grownBy (w'.setCell ⟨T + 1, i, none⟩ (.int .i64 (c.way a i))) (some (T + 1)) ∧ (w'.setCell ⟨T + 1, i, none⟩ (.int .i64 (c.way a i))).grownBy ((w'.setCell ⟨T + 1, i, none⟩ (.int .i64 (c.way a i))).setCell ⟨g, i, none⟩ (.int .i64 v)) (some g) := by
  have hs := HX.set (by simp [hnl]) i hih 0 (by omega) (.int .i64 (c.way a i))
  rw [irow_set _ _ _ (by omega)] at hs
  simp only [Nat.mul_one, Nat.add_zero] at hs
  obtain ⟨hX1, hG1, hF1⟩ := hs
  have O1 : OwnSk (w'.setCell ⟨T + 1, i, none⟩ (.int .i64 (c.way a i))) base 108 (.slice aM n cM) (.slice aG HLn cG) c es' := by
    refine HO.2.far hG1 ?_ (ownBlock_ne hne.1) (fun p hp => ownBlock_ne (hne.2 p hp))
    have := own_own_ne HO.2.nodes.2 HX.2 (by decide)
    simpa [Value.ownBlock] using this
  obtain ⟨g0, cap0, e0, _, _, c0, _⟩ := HO.2.set (by decide) a ha i hi
  obtain ⟨g, cap, e1, hb, _, c1, f1, hset⟩ := O1.set (by decide) a ha i hi
  have eg : g0 = g := by
    rw [e0] at e1
    simp only [Value.slice.injEq, Option.some.injEq, Addr.mk.injEq] at e1
    exact e1.1.1
  subst eg
  have hgT : g0 ≠ T + 1 := by
    cases a with
    | zero =>
      refine hne.1 g0 ?_
      simp only [wayV] at e0
      rw [e0]
      rfl
    | succ k =>
      have hk : k < es'.length := by rw [HO.2.read.len]; omega
      refine hne.2 es'[k] (by simp) g0 ?_
      have : wayV (.slice aG HLn cG) es' (k + 1) = es'[k].2 := by simp [wayV, List.getD, hk]
      rw [← this, e0]
      rfl
  have hcx : w'.cell? ⟨T + 1, i, none⟩ = some (.int .i64 (nx.getD i 0)) := by
    have hR : IntsR w' (.slice (some ⟨T + 1, 0, none⟩) h h) nx := Rws.own HX
    obtain ⟨b, off, cp, n', e2, hn', hc'⟩ := hR.at i (by omega)
    simp only [Value.slice.injEq, Option.some.injEq, Addr.mk.injEq] at e2
    obtain ⟨⟨rfl, rfl, _⟩, _⟩ := e2
    simpa [List.getD, hn'] using hc'
  have h2 := hset v
  refine ⟨g0, cap0, e0, hb, hgT, c0, hF1, hcx, c1, f1, ⟨?_, h2.1⟩, ?_, hG1, h2.2⟩
  · have bT1 := blk_grown HO.1 hG1 (by simp)
    refine blk_grown bT1 h2.2 ?_
    intro q
    injection q with q
    subst q
    have := (OwnR.block_type O1 e1 a ha)
    rw [bT1] at this
    obtain ⟨cs, fr, e3⟩ := this
    simp at e3
  · refine hX1.far h2.2 (.inr ?_)
    simp only [Value.ownBlock]
    intro q
    injection q with q
    exact hgT q.symm
set_option maxHeartbeats 4000000 in
set_option maxRecDepth 100000 in
theorem with_any (s : Sk) (es : List (En × Value)) (vN vH : Value) (x : En) (h : Nat) (a0 a1 a2 a3 a4 a5 a6 a7 : Nat) (w : World) (hV : SkE w vN vH s es) (hg : Good s) (h1 : 1 ≤ h) (h8 : h ≤ 8) (hL : ∀ l, l < 8 → CutAt s s.ord x l ([a0, a1, a2, a3, a4, a5, a6, a7].getD l 0)) (hn : s.nodes.length < 4096) :
    Calls Try.prog 65 #[.agg #[vN, vH], enV x, .int .i64 (h : Int), .agg #[natV a0, natV a1, natV a2, natV a3, natV a4, natV a5, natV a6, natV a7]] w fun e w' => ∃ vN' vH' es', e = .returned (.agg #[vN', vH']) ∧ Hid (OwnSk w' w.heap.size 108 vN' vH' (putF s x (fun l => [a0, a1, a2, a3, a4, a5, a6, a7].getD l 0) h) es') ∧ Hid (Below w.heap.size w w') := by
  obtain ⟨⟨aN, cN, rfl⟩, ⟨aH, cH, rfl⟩⟩ := hV.form
  have HV : Hid (SkE w (.slice aN s.nodes.length cN) (.slice aH s.head.length cH) s es) := hV
  have HG : Hid (Good s) := hg
  have HL : Hid (∀ l, l < 8 → CutAt s s.ord x l ([a0, a1, a2, a3, a4, a5, a6, a7].getD l 0)) := hL
  clear hV hg hL
  unfold enV natV
  obtain ⟨wa, hwa⟩ : ∃ wa, wa = (((w.alloc (.cells #[.slice aN s.nodes.length cN, .slice aH s.head.length cH] 85)).alloc (enObj x)).alloc (.cells #[.int .i64 (a0 : Int), .int .i64 (a1 : Int), .int .i64 (a2 : Int), .int .i64 (a3 : Int), .int .i64 (a4 : Int), .int .i64 (a5 : Int), .int .i64 (a6 : Int), .int .i64 (a7 : Int)] 98)).alloc (.cells #[.slice none 0 0, .slice none 0 0] 85) := ⟨_, rfl⟩
  have HWA : Hid ((((w.alloc (.cells #[.slice aN s.nodes.length cN, .slice aH s.head.length cH] 85)).alloc (enObj x)).alloc (.cells #[.int .i64 (a0 : Int), .int .i64 (a1 : Int), .int .i64 (a2 : Int), .int .i64 (a3 : Int), .int .i64 (a4 : Int), .int .i64 (a5 : Int), .int .i64 (a6 : Int), .int .i64 (a7 : Int)] 98)).alloc (.cells #[.slice none 0 0, .slice none 0 0] 85) = wa) := hwa.symm
  have HBA : Hid (WiB w wa (.slice aN s.nodes.length cN) (.slice aH s.head.length cH) x [a0, a1, a2, a3, a4, a5, a6, a7]) := by
    have q := blk4 w (.cells #[.slice aN s.nodes.length cN, .slice aH s.head.length cH] 85) (enObj x) (.cells #[.int .i64 (a0 : Int), .int .i64 (a1 : Int), .int .i64 (a2 : Int), .int .i64 (a3 : Int), .int .i64 (a4 : Int), .int .i64 (a5 : Int), .int .i64 (a6 : Int), .int .i64 (a7 : Int)] 98) (.cells #[.slice none 0 0, .slice none 0 0] 85)
    rw [← hwa] at q
    refine ⟨by rw [hwa]; exact up_al (up_al (up_al (up_al (Below.refl _ _) _) _) _) _, q⟩
  unfold enObj at HWA
  have p0 : wa.cell? ⟨w.heap.size, 0, none⟩ = some (.slice aN s.nodes.length cN) := blk_cell HBA.out.2.1 0 _ rfl
  have p1 : wa.cell? ⟨w.heap.size, 1, none⟩ = some (.slice aH s.head.length cH) := blk_cell HBA.out.2.1 1 _ rfl
  have HC := copiedS_any s es _ _ wa (HV.out.up HBA.out.1) (by omega) HG.out.head HG.out.high8
  have HCH : Hid (Calls Try.prog 73 #[.agg #[.slice aN s.nodes.length cN, .slice aH s.head.length cH]] wa fun e w' => ∃ vN' vH' es', e = .returned (.agg #[vN', vH']) ∧ Hid (OwnSk w' wa.heap.size 108 vN' vH' s es') ∧ Hid (Below wa.heap.size wa w')) := HC
  clear hwa HC
  go_enter Try.func65, Try.ntmps65
  go_upto_region 1 with fail
  rw [HWA.out]
  clear HWA
  go_wp2_with fail
  refine HCH.out.mono ?_
  rintro e wc ⟨vN', vH', es', rfl, OC, UC⟩
  obtain ⟨⟨aM, cM, rfl⟩, ⟨aG, cG, rfl⟩⟩ := OC.out.read.form
  have hmk := mk_ints h h8
  have HN63 : (s.nodes.length : Int) + 1 ≤ 9223372036854775807 := by omega
  -- behind the copy: its box, and the ways of the new node
  obtain ⟨wd, hwd⟩ : ∃ wd, wd = wc.alloc (.cells #[.slice aM s.nodes.length cM, .slice aG s.head.length cG] 85) := ⟨_, rfl⟩
  obtain ⟨wn, hwn⟩ : ∃ wn, wn = wd.alloc (.cells (zeroC h) 3) := ⟨_, rfl⟩
  have HWN : Hid ((wc.alloc (.cells #[.slice aM s.nodes.length cM, .slice aG s.head.length cG] 85)).alloc (.cells (zeroC h) 3) = wn) := by unfold Hid; rw [hwn, hwd]
  have UD : Hid (Below wc.heap.size wc wd) := by rw [hwd]; exact up_alloc _ _
  have UN : Hid (Below wd.heap.size wd wn) := by rw [hwn]; exact up_alloc _ _
  have HSD : wd.heap.size = wc.heap.size + 1 := by rw [hwd]; simp
  have ON : OwnR wn wd.heap.size 3 1 (.slice (some ⟨wd.heap.size, 0, none⟩) h h) ((List.replicate h (0 : Int)).map irow) := by rw [hwn]; exact own_made wd h h8
  have BT : wd.heap[wc.heap.size]? = some (.cells #[.slice aM s.nodes.length cM, .slice aG s.head.length cG] 85) := by rw [hwd]; exact blk_new _ _
  have SZ0 : w.heap.size + 4 ≤ wa.heap.size := by have := blk_lt HBA.out.2.2.2.2; omega
  have SZ1 : wa.heap.size ≤ wc.heap.size := UC.out.size
  have HI : Hid (OpenK wn (w.heap.size + 4) wc.heap.size 108 85 (.slice aM s.nodes.length cM) (.slice aG s.head.length cG) s es' ∧ OwnR wn (w.heap.size + 4) 3 1 (.slice (some ⟨wc.heap.size + 1, 0, none⟩) h h) ((List.replicate h (0 : Int)).map irow) ∧ WiB w wn (.slice aN s.nodes.length cN) (.slice aH s.head.length cH) x [a0, a1, a2, a3, a4, a5, a6, a7] ∧ (∀ g, Value.ownBlock (.slice aG s.head.length cG) = some g → g ≠ wc.heap.size + 1) ∧ (∀ p ∈ es', ∀ g, Value.ownBlock p.2 = some g → g ≠ wc.heap.size + 1)) := by
    have OC2 := OC.out.mono SZ0
    refine ⟨⟨blk_up BT UN.out, (OC2.up UD.out).up UN.out⟩, ?_, HBA.out.up (up_trans UC.out (up_trans UD.out UN.out)), ?_, ?_⟩
    · have := ON.mono (show w.heap.size + 4 ≤ wd.heap.size by omega)
      rw [HSD] at this
      exact this
    · intro g hg
      have := (OC2.head.2.lt g hg).2
      omega
    · intro p hp g hg
      obtain ⟨k, hk⟩ := List.mem_iff_getElem?.1 hp
      have := ((OC2.nexts k p hk).2.lt g hg).2
      omega
  have HTs : Hid (w.heap.size + 4 ≤ wc.heap.size) := by unfold Hid; omega
  generalize hHL : s.head.length = HLn at *
  have HHL : Hid (s.head.length = HLn) := hHL
  clear hwd hwn UD UN ON BT OC UC HBA HCH p0 p1 SZ0 SZ1 hHL HSD
  go_wp2_with fail
  rw [HWN.out]
  clear HWN hmk
  generalize hT : wc.heap.size = T at *
  clear hT
  go_loopw [23] (fun q wr => ∃ (i : Nat), i ≤ h ∧ q = .int .i64 (i : Int) ∧ Hid (OpenK wr (w.heap.size + 4) T 108 85 (.slice aM s.nodes.length cM) (.slice aG HLn cG) (linkF s (fun l => [a0, a1, a2, a3, a4, a5, a6, a7].getD l 0) ((s.nodes.length : Int) + 1) i) es' ∧ OwnR wr (w.heap.size + 4) 3 1 (.slice (some ⟨T + 1, 0, none⟩) h h) ((nextF s (fun l => [a0, a1, a2, a3, a4, a5, a6, a7].getD l 0) i ++ List.replicate (h - i) (0 : Int)).map irow) ∧ WiB w wr (.slice aN s.nodes.length cN) (.slice aH HLn cH) x [a0, a1, a2, a3, a4, a5, a6, a7])) (fun q _ => h - (intOf q).toNat)
  case atStart => exact ⟨0, by omega, rfl, HI.out.1, by simpa [nextF] using HI.out.2.1, HI.out.2.2.1⟩
  case round =>
    have HNE : Hid ((∀ g, Value.ownBlock (.slice aG HLn cG) = some g → g ≠ T + 1) ∧ (∀ p ∈ es', ∀ g, Value.ownBlock p.2 = some g → g ≠ T + 1)) := HI.out.2.2.2
    clear HI
    obtain ⟨i, hi, rfl, HO⟩ := hrel
    by_cases hlt : i < h
    · have hlt' : (i : Int) < (h : Int) := by omega
      have hi8 : i < 8 := by omega
      have hi8' : (i : Int) < 8 := by omega
      have q0 := blk_cell HO.out.2.2.2.2.2.1 i _ (arrC_get [a0, a1, a2, a3, a4, a5, a6, a7] i hi8)
      have HCO : Hid (CutOn s s.ord x i ([a0, a1, a2, a3, a4, a5, a6, a7].getD i 0)) := (HL.out i hi8).on
      have HEQ : Hid (linkF s (fun l => [a0, a1, a2, a3, a4, a5, a6, a7].getD l 0) ((s.nodes.length : Int) + 1) (i + 1) = (linkF s (fun l => [a0, a1, a2, a3, a4, a5, a6, a7].getD l 0) ((s.nodes.length : Int) + 1) i).set ([a0, a1, a2, a3, a4, a5, a6, a7].getD i 0) i ((s.nodes.length : Int) + 1)) := rfl
      have HNX : Hid (nextF s (fun l => [a0, a1, a2, a3, a4, a5, a6, a7].getD l 0) (i + 1) = nextF s (fun l => [a0, a1, a2, a3, a4, a5, a6, a7].getD l 0) i ++ [s.way ([a0, a1, a2, a3, a4, a5, a6, a7].getD i 0) i]) := by
        unfold Hid nextF
        rw [List.range_succ, List.map_append]
        rfl
      have HWY : Hid ((linkF s (fun l => [a0, a1, a2, a3, a4, a5, a6, a7].getD l 0) ((s.nodes.length : Int) + 1) i).way ([a0, a1, a2, a3, a4, a5, a6, a7].getD i 0) i = s.way ([a0, a1, a2, a3, a4, a5, a6, a7].getD i 0) i) := linkF_way _ _ _ _ _ _ (Nat.le_refl _)
      have HWL : Hid (((linkF s (fun l => [a0, a1, a2, a3, a4, a5, a6, a7].getD l 0) ((s.nodes.length : Int) + 1) i).ways ([a0, a1, a2, a3, a4, a5, a6, a7].getD i 0)).length = (s.ways ([a0, a1, a2, a3, a4, a5, a6, a7].getD i 0)).length) := linkF_ways _ _ _ _ _
      have HLN : Hid ((linkF s (fun l => [a0, a1, a2, a3, a4, a5, a6, a7].getD l 0) ((s.nodes.length : Int) + 1) i).nodes.length = s.nodes.length) := linkF_len _ _ _ _
      have HNL : Hid ((nextF s (fun l => [a0, a1, a2, a3, a4, a5, a6, a7].getD l 0) i).length = i) := by simp [Hid, nextF]
      generalize hA : [a0, a1, a2, a3, a4, a5, a6, a7].getD i 0 = A at *
      have HAB : Hid (A ≤ s.nodes.length) := HCO.out.bound (fun k hk => (HG.out.mem k).1 hk)
      have HWS : Hid (i < (s.ways A).length) := HCO.out.ways HG.out.head hi8
      clear hA
      have HST : Hid (∀ w', OpenK w' (w.heap.size + 4) T 108 85 (.slice aM s.nodes.length cM) (.slice aG HLn cG) (linkF s (fun l => [a0, a1, a2, a3, a4, a5, a6, a7].getD l 0) ((s.nodes.length : Int) + 1) i) es' ∧ OwnR w' (w.heap.size + 4) 3 1 (.slice (some ⟨T + 1, 0, none⟩) h h) ((nextF s (fun l => [a0, a1, a2, a3, a4, a5, a6, a7].getD l 0) i ++ List.replicate (h - i) (0 : Int)).map irow) ∧ WiB w w' (.slice aN s.nodes.length cN) (.slice aH HLn cH) x [a0, a1, a2, a3, a4, a5, a6, a7] →
          ∃ g cap, wayV (.slice aG HLn cG) es' A = .slice (some ⟨g, 0, none⟩) (s.ways A).length cap ∧ w'.cell? ⟨g, i, none⟩ = some (.int .i64 (s.way A i)) ∧ w'.frozen? ⟨T + 1, i, none⟩ = false ∧ (∃ z, w'.cell? ⟨T + 1, i, none⟩ = some (.int .i64 z)) ∧ (w'.setCell ⟨T + 1, i, none⟩ (.int .i64 (s.way A i))).cell? ⟨g, i, none⟩ = some (.int .i64 (s.way A i)) ∧ (w'.setCell ⟨T + 1, i, none⟩ (.int .i64 (s.way A i))).frozen? ⟨g, i, none⟩ = false ∧
            Hid (OpenK ((w'.setCell ⟨T + 1, i, none⟩ (.int .i64 (s.way A i))).setCell ⟨g, i, none⟩ (.int .i64 ((s.nodes.length : Int) + 1))) (w.heap.size + 4) T 108 85 (.slice aM s.nodes.length cM) (.slice aG HLn cG) (linkF s (fun l => [a0, a1, a2, a3, a4, a5, a6, a7].getD l 0) ((s.nodes.length : Int) + 1) (i + 1)) es' ∧ OwnR ((w'.setCell ⟨T + 1, i, none⟩ (.int .i64 (s.way A i))).setCell ⟨g, i, none⟩ (.int .i64 ((s.nodes.length : Int) + 1))) (w.heap.size + 4) 3 1 (.slice (some ⟨T + 1, 0, none⟩) h h) ((nextF s (fun l => [a0, a1, a2, a3, a4, a5, a6, a7].getD l 0) (i + 1) ++ List.replicate (h - (i + 1)) (0 : Int)).map irow) ∧ WiB w ((w'.setCell ⟨T + 1, i, none⟩ (.int .i64 (s.way A i))).setCell ⟨g, i, none⟩ (.int .i64 ((s.nodes.length : Int) + 1))) (.slice aN s.nodes.length cN) (.slice aH HLn cH) x [a0, a1, a2, a3, a4, a5, a6, a7])) := by
        rintro w' ⟨k1, k2, k3⟩
        have z := with_step k1 k2 (by rw [List.length_append, HNL.out, List.length_replicate]; omega) HNE.out A i (by rw [HLN.out]; exact HAB.out) (by rw [HWL.out]; exact HWS.out) hlt ((s.nodes.length : Int) + 1)
        rw [HWY.out, HWL.out] at z
        obtain ⟨g, cap, e1, e2, e3, e4, e5, e6, e7, e8, e9, e10, e11, e12⟩ := z
        refine ⟨g, cap, e1, e4, e5, ⟨_, e6⟩, e7, e8, ?_, ?_, ?_⟩
        · rw [HEQ.out]; exact e9
        · have eL : (nextF s (fun l => [a0, a1, a2, a3, a4, a5, a6, a7].getD l 0) i ++ List.replicate (h - i) (0 : Int)).set i (s.way A i) = nextF s (fun l => [a0, a1, a2, a3, a4, a5, a6, a7].getD l 0) (i + 1) ++ List.replicate (h - (i + 1)) (0 : Int) := by
            rw [HNX.out, List.set_append_right _ _ (by rw [HNL.out]; exact Nat.le_refl _), HNL.out, Nat.sub_self, show h - i = (h - (i + 1)) + 1 by omega, List.replicate_succ, List.set_cons_zero]
            simp
          rw [← eL]
          exact e10
        · exact (k3.set e11 (by have := HTs.out; omega)).set e12 e2
      have HOO : Hid (OpenK wr (w.heap.size + 4) T 108 85 (.slice aM s.nodes.length cM) (.slice aG HLn cG) (linkF s (fun l => [a0, a1, a2, a3, a4, a5, a6, a7].getD l 0) ((s.nodes.length : Int) + 1) i) es' ∧ OwnR wr (w.heap.size + 4) 3 1 (.slice (some ⟨T + 1, 0, none⟩) h h) ((nextF s (fun l => [a0, a1, a2, a3, a4, a5, a6, a7].getD l 0) i ++ List.replicate (h - i) (0 : Int)).map irow) ∧ WiB w wr (.slice aN s.nodes.length cN) (.slice aH HLn cH) x [a0, a1, a2, a3, a4, a5, a6, a7]) := HO.out
      obtain ⟨g, cap, eW, _⟩ := HST.out wr HOO.out
      have HWV : Hid (wayV (.slice aG HLn cG) es' A = .slice (some ⟨g, 0, none⟩) (s.ways A).length cap) := eW
      have t0 : wr.cell? ⟨T, 0, none⟩ = some (.slice aM s.nodes.length cM) := blk_cell HOO.out.1.1 0 _ rfl
      have t1 : wr.cell? ⟨T, 1, none⟩ = some (.slice aG HLn cG) := blk_cell HOO.out.1.1 1 _ rfl
      have HC := waysOf_any (linkF s (fun l => [a0, a1, a2, a3, a4, a5, a6, a7].getD l 0) ((s.nodes.length : Int) + 1) i) es' (.slice aM s.nodes.length cM) (.slice aG HLn cG) wr.drew (HOO.out.1.2.read.up (up_dr (Below.refl _ _))) A (by rw [HLN.out]; exact HAB.out)
      rw [eW] at HC
      generalize hLW : (s.ways A).length = LW at *
      have hiw : (i : Int) < (LW : Int) := by have := HWS.out; omega
      have HK : Hid (Calls Try.prog 72 #[.agg #[.slice aM s.nodes.length cM, .slice aG HLn cG], .int .i64 (A : Int)] wr.drew fun e w' => e = .returned (.slice (some ⟨g, 0, none⟩) LW cap) ∧ w'.cell? ⟨T, 0, none⟩ = some (.slice aM s.nodes.length cM) ∧ w'.cell? ⟨T, 1, none⟩ = some (.slice aG HLn cG) ∧ w'.cell? ⟨w.heap.size + 2, i, none⟩ = some (.int .i64 (A : Int)) ∧ Hid (OpenK w' (w.heap.size + 4) T 108 85 (.slice aM s.nodes.length cM) (.slice aG HLn cG) (linkF s (fun l => [a0, a1, a2, a3, a4, a5, a6, a7].getD l 0) ((s.nodes.length : Int) + 1) i) es' ∧ OwnR w' (w.heap.size + 4) 3 1 (.slice (some ⟨T + 1, 0, none⟩) h h) ((nextF s (fun l => [a0, a1, a2, a3, a4, a5, a6, a7].getD l 0) i ++ List.replicate (h - i) (0 : Int)).map irow) ∧ WiB w w' (.slice aN s.nodes.length cN) (.slice aH HLn cH) x [a0, a1, a2, a3, a4, a5, a6, a7])) := by
        refine HC.mono ?_
        rintro e w' ⟨rfl, rfl⟩
        have hb2 : Below wr.heap.size wr (wr.drew.alloc (.cells #[.slice aM s.nodes.length cM, .slice aG HLn cG] 85)) := up_al (up_dr (Below.refl _ _)) _
        have lt : ∀ {bb o : Nat} {q : Value}, wr.cell? ⟨bb, o, none⟩ = some q → (wr.drew.alloc (.cells #[.slice aM s.nodes.length cM, .slice aG HLn cG] 85)).cell? ⟨bb, o, none⟩ = some q := fun hq => (hb2.cell (World.block_lt_of_cell? wr _ hq)).trans hq
        exact ⟨rfl, lt t0, lt t1, lt q0, HOO.out.1.up hb2, HOO.out.2.1.up hb2, HOO.out.2.2.up hb2⟩
      clear HC eW HO HOO HEQ HNX HWY HWL HLN HNL HCO
      go_wp2_with fail
      go_region_held3 (fun w' => w'.cell? ⟨T, 0, none⟩ = some (.slice aM s.nodes.length cM) ∧ w'.cell? ⟨T, 1, none⟩ = some (.slice aG HLn cG) ∧ w'.cell? ⟨w.heap.size + 2, i, none⟩ = some (.int .i64 (A : Int))) (first | with_reducible exact ⟨k0, k1, k2⟩ | with_reducible exact ⟨t0, t1, q0⟩ | (simp [go_sem, t0, t1, q0]; done)) (first
        | (go_at_call 72; with_reducible refine HK.out.mono ?_; rintro e w' ⟨rfl, k0, k1, k2, hs⟩))
      all_goals
        obtain ⟨g', cap', eW', c1, f1, ⟨z, c2⟩, c3, f2, HZ⟩ := HST.out w' hs.out
        rw [HWV.out] at eW'
        simp only [Value.slice.injEq, Option.some.injEq, Addr.mk.injEq] at eW'
        obtain ⟨⟨rfl, _⟩, _, rfl⟩ := eW'
        go_wp2_with fail
        exact ⟨⟨i + 1, by omega, by go_num, HZ⟩, by simp [intOf]; omega⟩
    · obtain rfl : i = h := by omega
      have t0 : wr.cell? ⟨T, 0, none⟩ = some (.slice aM s.nodes.length cM) := blk_cell HO.out.1.1 0 _ rfl
      have t1 : wr.cell? ⟨T, 1, none⟩ = some (.slice aG HLn cG) := blk_cell HO.out.1.1 1 _ rfl
      have x0 : wr.cell? ⟨w.heap.size + 1, 0, none⟩ = some (.string x.key) := blk_cell HO.out.2.2.2.2.1 0 _ rfl
      have x1 : wr.cell? ⟨w.heap.size + 1, 1, none⟩ = some (.int .i64 x.seq) := blk_cell HO.out.2.2.2.2.1 1 _ rfl
      have x2 : wr.cell? ⟨w.heap.size + 1, 2, none⟩ = some (.int .i64 x.kind) := blk_cell HO.out.2.2.2.2.1 2 _ rfl
      have x3 : wr.cell? ⟨w.heap.size + 1, 3, none⟩ = some (.string x.val) := blk_cell HO.out.2.2.2.2.1 3 _ rfl
      have HELN : Hid (es'.length = s.nodes.length) := by
        have := HO.out.1.2.read.len
        rw [linkF_len] at this
        exact this
      have HA4 : Hid (((es'.map nrow).length + [nrow (x, Value.slice (some ⟨T + 1, 0, none⟩) i i)].length + ((es'.map nrow).length + [nrow (x, Value.slice (some ⟨T + 1, 0, none⟩) i i)].length) / 4 + 192) * 72 ≤ 281474976710656 ∧ (es'.map nrow).length + [nrow (x, Value.slice (some ⟨T + 1, 0, none⟩) i i)].length ≤ maxLen) := by
        have := HELN.out
        unfold Hid maxLen; simp only [List.length_map, List.length_cons, List.length_nil]; omega
      have HSZ : Hid (w.heap.size + 4 ≤ (wr.alloc (.cells #[.string x.key, .int .i64 x.seq, .int .i64 x.kind, .string x.val, .slice (some ⟨T + 1, 0, none⟩) i i] 108)).heap.size) := by
        have := blk_lt HO.out.1.1
        have h2 := (up_alloc wr (.cells #[.string x.key, .int .i64 x.seq, .int .i64 x.kind, .string x.val, .slice (some ⟨T + 1, 0, none⟩) i i] 108)).size
        have := HTs.out
        unfold Hid; omega
      have HOA : Hid (OpenK (wr.alloc (.cells #[.string x.key, .int .i64 x.seq, .int .i64 x.kind, .string x.val, .slice (some ⟨T + 1, 0, none⟩) i i] 108)) (w.heap.size + 4) T 108 85 (.slice aM s.nodes.length cM) (.slice aG HLn cG) (linkF s (fun l => [a0, a1, a2, a3, a4, a5, a6, a7].getD l 0) ((s.nodes.length : Int) + 1) i) es' ∧ OwnR (wr.alloc (.cells #[.string x.key, .int .i64 x.seq, .int .i64 x.kind, .string x.val, .slice (some ⟨T + 1, 0, none⟩) i i] 108)) (w.heap.size + 4) 3 1 (.slice (some ⟨T + 1, 0, none⟩) i i) ((nextF s (fun l => [a0, a1, a2, a3, a4, a5, a6, a7].getD l 0) i).map irow) ∧ WiB w (wr.alloc (.cells #[.string x.key, .int .i64 x.seq, .int .i64 x.kind, .string x.val, .slice (some ⟨T + 1, 0, none⟩) i i] 108)) (.slice aN s.nodes.length cN) (.slice aH HLn cH) x [a0, a1, a2, a3, a4, a5, a6, a7]) := by
        refine ⟨HO.out.1.up (up_alloc _ _), ?_, HO.out.2.2.up (up_alloc _ _)⟩
        have := HO.out.2.1
        rw [Nat.sub_self, List.replicate_zero, List.append_nil] at this
        exact this.up (up_alloc _ _)
      have HRM : Hid (Rws 5 (wr.alloc (.cells #[.string x.key, .int .i64 x.seq, .int .i64 x.kind, .string x.val, .slice (some ⟨T + 1, 0, none⟩) i i] 108)) (.slice (some ⟨wr.heap.size, 0, none⟩) 1 1) [nrow (x, .slice (some ⟨T + 1, 0, none⟩) i i)]) := Rws.made (sz := 5) wr 108 [nrow (x, .slice (some ⟨T + 1, 0, none⟩) i i)] (by simp [nrow, enRow]) (by simp [maxLen])
      clear HO
      go_wp2_with (at_builtin; refine wpList_append_rows _ rfl _ _ 83 108 _ 5 72 rfl Try.underlying83 Try.info108 rfl (by decide) (w.heap.size + 4) (.slice aM s.nodes.length cM) (es'.map nrow) rfl HOA.out.1.2.nodes (.slice (some ⟨wr.heap.size, 0, none⟩) 1 1) [nrow (x, .slice (some ⟨T + 1, 0, none⟩) i i)] rfl HRM.out (nrow_one (w := w) x _ _ _) HA4.out.1 HA4.out.2 HSZ.out ?_)
      intro v6 w6 o6 g6
      obtain ⟨a9, c9, e6, _, _⟩ := (Rws.own o6).len
      simp only [List.length_append, List.length_map, List.length_cons, List.length_nil] at e6
      rw [HELN.out] at e6
      subst e6
      have Z := HOA.out.1.2.addRow HOA.out.1.1 (by decide) (by decide) (by decide) (vI := .slice (some ⟨T + 1, 0, none⟩) i i) (y := x) (nx := nextF s (fun l => [a0, a1, a2, a3, a4, a5, a6, a7].getD l 0) i) HOA.out.2.1 ⟨.inr (fun q => HNE.out.1 (T + 1) q rfl), fun p hp => .inr (fun q => HNE.out.2 p hp (T + 1) q rfl)⟩ g6 o6
      have HZ : Hid (OwnSk (w6.setCell ⟨T, 0, none⟩ (.slice a9 (s.nodes.length + 1) c9)) (w.heap.size + 4) 108 (.slice a9 (s.nodes.length + 1) c9) (.slice aG HLn cG) (putF s x (fun l => [a0, a1, a2, a3, a4, a5, a6, a7].getD l 0) i) (es' ++ [(x, .slice (some ⟨T + 1, 0, none⟩) i i)])) := Z.2.2.1
      have HB : Hid ((w6.setCell ⟨T, 0, none⟩ (.slice a9 (s.nodes.length + 1) c9)).heap[T]? = some (.cells #[.slice a9 (s.nodes.length + 1) c9, .slice aG HLn cG] 85)) := Z.2.1
      have HBe : Hid (Below (w.heap.size + 4) (wr.alloc (.cells #[.string x.key, .int .i64 x.seq, .int .i64 x.kind, .string x.val, .slice (some ⟨T + 1, 0, none⟩) i i] 108)) (w6.setCell ⟨T, 0, none⟩ (.slice a9 (s.nodes.length + 1) c9))) := Z.2.2.2 (w.heap.size + 4) (Nat.le_refl _) HTs.out HSZ.out
      have HW3 : Hid ((w6.setCell ⟨T, 0, none⟩ (.slice a9 (s.nodes.length + 1) c9)).heap[w.heap.size + 3]? = some (.cells #[.slice none 0 0, .slice none 0 0] 85)) := (HBe.out.block (w.heap.size + 3) (by omega)).trans HOA.out.2.2.2.2.2.2
      have s0 : w6.cell? ⟨T, 0, none⟩ = some (.slice aM s.nodes.length cM) := blk_cell Z.1 0 _ rfl
      have s1 : w6.frozen? ⟨T, 0, none⟩ = false := blk_frozen Z.1 0
      have s2 : (w6.setCell ⟨T, 0, none⟩ (.slice a9 (s.nodes.length + 1) c9)).cell? ⟨T, 0, none⟩ = some (.slice a9 (s.nodes.length + 1) c9) := blk_cell HB.out 0 _ rfl
      have s3 : (w6.setCell ⟨T, 0, none⟩ (.slice a9 (s.nodes.length + 1) c9)).cell? ⟨T, 1, none⟩ = some (.slice aG HLn cG) := blk_cell HB.out 1 _ rfl
      have s3' : w6.cell? ⟨T, 1, none⟩ = some (.slice aG HLn cG) := blk_cell Z.1 1 _ rfl
      have s4 : (w6.setCell ⟨T, 0, none⟩ (.slice a9 (s.nodes.length + 1) c9)).cell? ⟨w.heap.size + 3, 0, none⟩ = some (.slice none 0 0) := blk_cell HW3.out 0 _ rfl
      have s5 : (w6.setCell ⟨T, 0, none⟩ (.slice a9 (s.nodes.length + 1) c9)).cell? ⟨w.heap.size + 3, 1, none⟩ = some (.slice none 0 0) := blk_cell HW3.out 1 _ rfl
      have s6 := fun k => blk_frozen HW3.out k
      have HUB : Hid (Below w.heap.size w (w6.setCell ⟨T, 0, none⟩ (.slice a9 (s.nodes.length + 1) c9))) := HOA.out.2.2.1.trans (Z.2.2.2 w.heap.size (by omega) (by have := HTs.out; omega) (by have := HSZ.out; omega))
      clear Z o6 g6
      go_wp2_with fail
      have g2 := set2_grown (w6.setCell ⟨T, 0, none⟩ (.slice a9 (s.nodes.length + 1) c9)) (w.heap.size + 3) (.slice a9 (s.nodes.length + 1) c9) (.slice aG HLn cG)
      refine bodyPost_ret (results_st rfl (.inl rfl) _ _ rfl (set2_blk HW3.out (.slice a9 (s.nodes.length + 1) c9) (.slice aG HLn cG))) rfl ?_
      refine ⟨_, _, _, rfl, (HZ.out.block HW3.out (by decide) (by decide) g2).mono (by omega), ?_⟩
      exact HUB.out.grown g2 HUB.out.size (fun k hk => by injection hk with hk; rw [← hk]; omega)
end Go.Proofs.Ytibjjhceiohmeaa

/- The program's behind: the first version behind the nodes of those numbers. -/
namespace Go.Proofs.Ytibjjhceiohmeaa
open Go.RowKit
set_option linter.unusedVariables false
set_option linter.unusedSimpArgs false

theorem results_entS {fn : Func} {q r : Nat} (h : fn.results = #[.cell q 36, .tmp r]) (tmps : Array Value) (w : World) {N : Nat} {a b c d : Value} (ht : tmps.getD q undef = .pointer (some ⟨N, 0, none⟩))
    (hc : w.heap[N]? = some (.cells #[a, b, c, d] 36)) : (results fn tmps).run Try.prog w = .ok (.tuple #[.agg #[a, b, c, d], tmps.getD r undef]) w := by
  have c0 := blk_cell hc 0 a rfl
  have c1 := blk_cell hc 1 b rfl
  have c2 := blk_cell hc 2 c rfl
  have c3 := blk_cell hc 3 d rfl
  have ht' : tmps[q]?.getD undef = .pointer (some ⟨N, 0, none⟩) := by simpa using ht
  simp only [results, h]
  simp [ht', go_sem, c0, c1, c2, c3]
theorem set4S_blk {w : World} {N : Nat} {t : TypeId} {x0 x1 x2 x3 : Value} (h : w.heap[N]? = some (.cells #[x0, x1, x2, x3] t)) (a b c d : Value) : ((((w.setCell ⟨N, 0, none⟩ a).setCell ⟨N, 1, none⟩ b).setCell ⟨N, 2, none⟩ c).setCell ⟨N, 3, none⟩ d).heap[N]? = some (.cells #[a, b, c, d] t) := by
  have := blk_set (blk_set (blk_set (blk_set h 0 a) 1 b) 2 c) 3 d
  simpa only [List.setIfInBounds_toArray, List.set_cons_zero, List.set_cons_succ] using this
theorem set4S_grown (w : World) (N : Nat) (a b c d : Value) : w.grownBy ((((w.setCell ⟨N, 0, none⟩ a).setCell ⟨N, 1, none⟩ b).setCell ⟨N, 2, none⟩ c).setCell ⟨N, 3, none⟩ d) (some N) :=
  grown_trans (grown_trans (grown_trans (grown_set w ⟨N, 0, none⟩ a) (grown_set _ ⟨N, 1, none⟩ b)) (grown_set _ ⟨N, 2, none⟩ c)) (grown_set _ ⟨N, 3, none⟩ d)

set_option maxHeartbeats 1000000 in
set_option maxRecDepth 100000 in
theorem behind_none (s : Sk) (es : List (En × Value)) (vN vH : Value) (a0 a1 a2 a3 a4 a5 a6 a7 : Nat) (w : World) (h : SkE w vN vH s es) (ha : a0 ≤ s.nodes.length) (hl : 0 < (s.ways a0).length) (hz : s.way a0 0 = 0) :
    Calls Try.prog 64 #[.agg #[vN, vH], .agg #[natV a0, natV a1, natV a2, natV a3, natV a4, natV a5, natV a6, natV a7]] w fun e w' => e = .returned (.tuple #[enV default, .bool false]) ∧ Hid (Below w.heap.size w w') := by
  obtain ⟨⟨aN, cN, rfl⟩, ⟨aH, cH, rfl⟩⟩ := h.form
  unfold natV
  obtain ⟨wa, hwa⟩ : ∃ wa, wa = ((w.alloc (.cells #[.slice aN s.nodes.length cN, .slice aH s.head.length cH] 85)).alloc (.cells #[.int .i64 (a0 : Int), .int .i64 (a1 : Int), .int .i64 (a2 : Int), .int .i64 (a3 : Int), .int .i64 (a4 : Int), .int .i64 (a5 : Int), .int .i64 (a6 : Int), .int .i64 (a7 : Int)] 98)).alloc (.cells #[.string ⟨#[]⟩, .int .i64 0, .int .i64 0, .string ⟨#[]⟩] 36) := ⟨_, rfl⟩
  have HU : Hid (Below w.heap.size w wa) := by rw [hwa]; exact up_al (up_al (up_al (Below.refl _ _) _) _) _
  have hB := blk4 w (.cells #[.slice aN s.nodes.length cN, .slice aH s.head.length cH] 85) (.cells #[.int .i64 (a0 : Int), .int .i64 (a1 : Int), .int .i64 (a2 : Int), .int .i64 (a3 : Int), .int .i64 (a4 : Int), .int .i64 (a5 : Int), .int .i64 (a6 : Int), .int .i64 (a7 : Int)] 98) (.cells #[.string ⟨#[]⟩, .int .i64 0, .int .i64 0, .string ⟨#[]⟩] 36) (.cells #[.slice aN s.nodes.length cN, .slice aH s.head.length cH] 85)
  rw [← hwa] at hB
  have HW := waysOf_any s es _ _ wa (h.up HU.out) a0 ha
  have U2 := up_alloc wa (.cells #[.slice aN s.nodes.length cN, .slice aH s.head.length cH] 85)
  obtain ⟨bw, ow, cw, ew, cl⟩ := ((h.up HU.out).up U2).wayAt a0 0 ha hl
  have hlw : (0 : Int) < ((s.ways a0).length : Int) := by omega
  rw [ew] at HW
  rw [hz, Nat.add_zero] at cl
  obtain ⟨wb, hwb⟩ : ∃ wb, wb = wa.alloc (.cells #[.slice aN s.nodes.length cN, .slice aH s.head.length cH] 85) := ⟨_, rfl⟩
  rw [← hwb] at HW hB cl U2
  have HWH : Hid (Calls Try.prog 72 #[.agg #[.slice aN s.nodes.length cN, .slice aH s.head.length cH], .int .i64 (a0 : Int)] wa fun e w' => e = .returned (.slice (some ⟨bw, ow, none⟩) (s.ways a0).length cw) ∧ w' = wb) := HW
  have B2 : Hid (wb.heap[w.heap.size + 2]? = some (.cells #[.string ⟨#[]⟩, .int .i64 0, .int .i64 0, .string ⟨#[]⟩] 36)) := hB.2.2.1
  have HU2 : Hid (Below w.heap.size w wb) := up_trans HU.out U2
  have HWA : Hid (((w.alloc (.cells #[.slice aN s.nodes.length cN, .slice aH s.head.length cH] 85)).alloc (.cells #[.int .i64 (a0 : Int), .int .i64 (a1 : Int), .int .i64 (a2 : Int), .int .i64 (a3 : Int), .int .i64 (a4 : Int), .int .i64 (a5 : Int), .int .i64 (a6 : Int), .int .i64 (a7 : Int)] 98)).alloc (.cells #[.string ⟨#[]⟩, .int .i64 0, .int .i64 0, .string ⟨#[]⟩] 36) = wa) := hwa.symm
  have r0 : wb.cell? ⟨w.heap.size + 2, 0, none⟩ = some (.string ⟨#[]⟩) := blk_cell B2.out 0 _ rfl
  have r1 : wb.cell? ⟨w.heap.size + 2, 1, none⟩ = some (.int .i64 0) := blk_cell B2.out 1 _ rfl
  have r2 : wb.cell? ⟨w.heap.size + 2, 2, none⟩ = some (.int .i64 0) := blk_cell B2.out 2 _ rfl
  have r3 : wb.cell? ⟨w.heap.size + 2, 3, none⟩ = some (.string ⟨#[]⟩) := blk_cell B2.out 3 _ rfl
  have f0 := fun k => blk_frozen B2.out k
  generalize hLW : (s.ways a0).length = LW at *
  clear h hB hwa hwb HW ew hl hz hLW U2 HU
  go_enter Try.func64, Try.ntmps64
  go_wp2_with fail
  rw [HWA.out]
  refine HWH.out.mono ?_
  rintro e w' ⟨rfl, rfl⟩
  clear HWH HWA
  go_wp2_with fail
  refine bodyPost_ret (results_entS rfl _ _ rfl (set4S_blk B2.out (.string ⟨#[]⟩) (.int .i64 0) (.int .i64 0) (.string ⟨#[]⟩))) rfl ?_
  exact ⟨rfl, HU2.out.grown (set4S_grown _ (w.heap.size + 2) _ _ _ _) HU2.out.size (fun k2 hk2 => by injection hk2 with hk2; rw [← hk2]; omega)⟩

set_option maxHeartbeats 1000000 in
set_option maxRecDepth 100000 in
theorem behind_some (s : Sk) (es : List (En × Value)) (vN vH : Value) (a0 a1 a2 a3 a4 a5 a6 a7 : Nat) (k : Nat) (w : World) (h : SkE w vN vH s es) (ha : a0 ≤ s.nodes.length) (hl : 0 < (s.ways a0).length) (hz : s.way a0 0 = (k : Int) + 1) (hk : k < s.nodes.length) :
    Calls Try.prog 64 #[.agg #[vN, vH], .agg #[natV a0, natV a1, natV a2, natV a3, natV a4, natV a5, natV a6, natV a7]] w fun e w' => e = .returned (.tuple #[enV (s.at' k).1, .bool true]) ∧ Hid (Below w.heap.size w w') := by
  obtain ⟨⟨aN, cN, rfl⟩, ⟨aH, cH, rfl⟩⟩ := h.form
  unfold natV enV
  have h63 : (s.nodes.length : Int) ≤ 9223372036854775807 := by
    obtain ⟨_, _, e, h4, h5⟩ := h.nodes.len
    have := h.len
    unfold maxLen at h5
    omega
  obtain ⟨wa, hwa⟩ : ∃ wa, wa = ((w.alloc (.cells #[.slice aN s.nodes.length cN, .slice aH s.head.length cH] 85)).alloc (.cells #[.int .i64 (a0 : Int), .int .i64 (a1 : Int), .int .i64 (a2 : Int), .int .i64 (a3 : Int), .int .i64 (a4 : Int), .int .i64 (a5 : Int), .int .i64 (a6 : Int), .int .i64 (a7 : Int)] 98)).alloc (.cells #[.string ⟨#[]⟩, .int .i64 0, .int .i64 0, .string ⟨#[]⟩] 36) := ⟨_, rfl⟩
  have HU : Hid (Below w.heap.size w wa) := by rw [hwa]; exact up_al (up_al (up_al (Below.refl _ _) _) _) _
  have hB := blk4 w (.cells #[.slice aN s.nodes.length cN, .slice aH s.head.length cH] 85) (.cells #[.int .i64 (a0 : Int), .int .i64 (a1 : Int), .int .i64 (a2 : Int), .int .i64 (a3 : Int), .int .i64 (a4 : Int), .int .i64 (a5 : Int), .int .i64 (a6 : Int), .int .i64 (a7 : Int)] 98) (.cells #[.string ⟨#[]⟩, .int .i64 0, .int .i64 0, .string ⟨#[]⟩] 36) (.cells #[.slice aN s.nodes.length cN, .slice aH s.head.length cH] 85)
  rw [← hwa] at hB
  have HW := waysOf_any s es _ _ wa (h.up HU.out) a0 ha
  have U2 := up_alloc wa (.cells #[.slice aN s.nodes.length cN, .slice aH s.head.length cH] 85)
  obtain ⟨bw, ow, cw, ew, cl⟩ := ((h.up HU.out).up U2).wayAt a0 0 ha hl
  have hlw : (0 : Int) < ((s.ways a0).length : Int) := by omega
  rw [ew] at HW
  rw [hz, Nat.add_zero] at cl
  obtain ⟨wb, hwb⟩ : ∃ wb, wb = wa.alloc (.cells #[.slice aN s.nodes.length cN, .slice aH s.head.length cH] 85) := ⟨_, rfl⟩
  obtain ⟨b, off, an, cn, rfl, _, hw, y0, y1, y2, y3, y4⟩ := ((h.up HU.out).up U2).node k hk
  rw [← hwb] at HW hB cl U2 y0 y1 y2 y3
  have HWH : Hid (Calls Try.prog 72 #[.agg #[.slice (some ⟨b, off, none⟩) s.nodes.length cN, .slice aH s.head.length cH], .int .i64 (a0 : Int)] wa fun e w' => e = .returned (.slice (some ⟨bw, ow, none⟩) (s.ways a0).length cw) ∧ w' = wb) := HW
  have B2 : Hid (wb.heap[w.heap.size + 2]? = some (.cells #[.string ⟨#[]⟩, .int .i64 0, .int .i64 0, .string ⟨#[]⟩] 36)) := hB.2.2.1
  have p0 : wb.cell? ⟨w.heap.size, 0, none⟩ = some (.slice (some ⟨b, off, none⟩) s.nodes.length cN) := blk_cell hB.1 0 _ rfl
  have HU2 : Hid (Below w.heap.size w wb) := up_trans HU.out U2
  have HWA : Hid (((w.alloc (.cells #[.slice (some ⟨b, off, none⟩) s.nodes.length cN, .slice aH s.head.length cH] 85)).alloc (.cells #[.int .i64 (a0 : Int), .int .i64 (a1 : Int), .int .i64 (a2 : Int), .int .i64 (a3 : Int), .int .i64 (a4 : Int), .int .i64 (a5 : Int), .int .i64 (a6 : Int), .int .i64 (a7 : Int)] 98)).alloc (.cells #[.string ⟨#[]⟩, .int .i64 0, .int .i64 0, .string ⟨#[]⟩] 36) = wa) := hwa.symm
  have r0 : wb.cell? ⟨w.heap.size + 2, 0, none⟩ = some (.string ⟨#[]⟩) := blk_cell B2.out 0 _ rfl
  have r1 : wb.cell? ⟨w.heap.size + 2, 1, none⟩ = some (.int .i64 0) := blk_cell B2.out 1 _ rfl
  have r2 : wb.cell? ⟨w.heap.size + 2, 2, none⟩ = some (.int .i64 0) := blk_cell B2.out 2 _ rfl
  have r3 : wb.cell? ⟨w.heap.size + 2, 3, none⟩ = some (.string ⟨#[]⟩) := blk_cell B2.out 3 _ rfl
  have f0 := fun k => blk_frozen B2.out k
  have hz2 : ((k : Int) + 1 == 0) = false := by simp; omega
  have hkn' : (k : Int) < (s.nodes.length : Int) := by omega
  have hwr1 : IntKind.i64.wrap (k : Int) = (k : Int) := by simp [IntKind.wrap, IntKind.bits, IntKind.signed]; omega
  have hwr2 : IntKind.i64.wrap ((k : Int) + 1 - 1) = (k : Int) := by rw [Int.add_sub_cancel]; exact hwr1
  have hk0 : 0 ≤ (k : Int) := by omega
  have hk1 : (k : Int) + 1 - 1 = (k : Int) := by omega
  generalize hLW : (s.ways a0).length = LW at *
  generalize hy : (s.at' k).1 = y at *
  clear h hB hwa hwb HW ew hl hz hLW U2 HU hw y4 hy
  go_enter Try.func64, Try.ntmps64
  go_wp2_with fail
  rw [HWA.out]
  refine HWH.out.mono ?_
  rintro e w' ⟨rfl, rfl⟩
  clear HWH HWA
  go_wp2_with fail
  refine bodyPost_ret (results_entS rfl _ _ rfl (set4S_blk B2.out (.string y.key) (.int .i64 y.seq) (.int .i64 y.kind) (.string y.val))) rfl ?_
  exact ⟨rfl, HU2.out.grown (set4S_grown _ (w.heap.size + 2) _ _ _ _) HU2.out.size (fun k2 hk2 => by injection hk2 with hk2; rw [← hk2]; omega)⟩
end Go.Proofs.Ytibjjhceiohmeaa

/- The program's joined: it walks along the ways. -/
namespace Go.Proofs.Ytibjjhceiohmeaa
open Go.RowKit
set_option linter.unusedVariables false
set_option linter.unusedSimpArgs false

theorem eightI (L : List Int) (h : L.length = 8) : ∃ a b c d e f g i, L = [a, b, c, d, e, f, g, i] := by
  match L, h with
  | [a, b, c, d, e, f, g, i], _ => exact ⟨a, b, c, d, e, f, g, i, rfl⟩
/-- The boxes of joined: the list and the ways. -/
def JnA (w wr : World) (vN vH : Value) (W : List Int) : Prop :=
  Below w.heap.size w wr ∧ wr.heap[w.heap.size]? = some (.cells #[vN, vH] 85) ∧ wr.heap[w.heap.size + 1]? = some (.cells (arrI W) 98)
theorem JnA.up {w wr w' : World} {vN vH : Value} {W : List Int} (h : JnA w wr vN vH W) (hb : Below wr.heap.size wr w') : JnA w w' vN vH W :=
  ⟨up_trans h.1 hb, blk_up h.2.1 hb, blk_up h.2.2 hb⟩
theorem JnA.set {w wr : World} {vN vH : Value} {W : List Int} (h : JnA w wr vN vH W) (l : Nat) (a : Int) : JnA w (wr.setCell ⟨w.heap.size + 1, l, none⟩ (.int .i64 a)) vN vH (W.set l a) := by
  refine ⟨?_, ?_, ?_⟩
  · exact h.1.grown (grown_set wr _ _) h.1.size (fun k hk => by injection hk with hk; rw [← hk]; simp)
  · exact blk_at2 (C := 0) h.2.1 (by simp)
  · have := blk_set h.2.2 l (.int .i64 a)
    rw [arrI_set] at this
    exact this
/-- And the last version. -/
def JnB (w wr : World) (vN vH : Value) (W : List Int) (N5 : Nat) (last : En) : Prop := JnA w wr vN vH W ∧ w.heap.size + 1 < N5 ∧ wr.heap[N5]? = some (enObj last)
theorem JnB.up {w wr w' : World} {vN vH : Value} {W : List Int} {N5 : Nat} {last : En} (h : JnB w wr vN vH W N5 last) (hb : Below wr.heap.size wr w') : JnB w w' vN vH W N5 last :=
  ⟨h.1.up hb, h.2.1, blk_up h.2.2 hb⟩
theorem JnB.set {w wr : World} {vN vH : Value} {W : List Int} {N5 : Nat} {last : En} (h : JnB w wr vN vH W N5 last) (l : Nat) (a : Int) : JnB w (wr.setCell ⟨w.heap.size + 1, l, none⟩ (.int .i64 a)) vN vH (W.set l a) N5 last :=
  ⟨h.1.set l a, h.2.1, blk_at2 (C := 0) h.2.2 (by simp only; have := h.2.1; omega)⟩
theorem JnB.last {w wr : World} {vN vH : Value} {W : List Int} {N5 : Nat} {last : En} (h : JnB w wr vN vH W N5 last) (y : En) : JnB w ((((wr.setCell ⟨N5, 0, none⟩ (.string y.key)).setCell ⟨N5, 1, none⟩ (.int .i64 y.seq)).setCell ⟨N5, 2, none⟩ (.int .i64 y.kind)).setCell ⟨N5, 3, none⟩ (.string y.val)) vN vH W N5 y := by
  have g := set4_grown' wr N5 (.string y.key) (.int .i64 y.seq) (.int .i64 y.kind) (.string y.val)
  have hn := h.2.1
  refine ⟨⟨?_, ?_, ?_⟩, h.2.1, ?_⟩
  · exact h.1.1.grown g h.1.1.size (fun k hk => by injection hk with hk; omega)
  · exact blk_grown h.1.2.1 g (by simp; omega)
  · exact blk_grown h.1.2.2 g (by simp; omega)
  · have h3 : wr.heap[N5]? = some (.cells #[.string last.key, .int .i64 last.seq, .int .i64 last.kind, .string last.val] 36) := h.2.2
    have := blk_set (blk_set (blk_set (blk_set h3 0 (.string y.key)) 1 (.int .i64 y.seq)) 2 (.int .i64 y.kind)) 3 (.string y.val)
    simp only [List.setIfInBounds_toArray, List.set_cons_zero, List.set_cons_succ] at this
    exact this
where set4_grown' (w : World) (N : Nat) (a b c d : Value) : w.grownBy ((((w.setCell ⟨N, 0, none⟩ a).setCell ⟨N, 1, none⟩ b).setCell ⟨N, 2, none⟩ c).setCell ⟨N, 3, none⟩ d) (some N) :=
  grown_trans (grown_trans (grown_trans (grown_set w ⟨N, 0, none⟩ a) (grown_set _ ⟨N, 1, none⟩ b)) (grown_set _ ⟨N, 2, none⟩ c)) (grown_set _ ⟨N, 3, none⟩ d)

set_option maxHeartbeats 1000000 in
set_option maxRecDepth 100000 in
theorem joined_any (s : Sk) (es : List (En × Value)) (vN vH : Value) (w : World) (h : SkE w vN vH s es) (h8 : s.head.length = 8) (hh : ∀ k, k < s.nodes.length → 1 ≤ s.h k ∧ s.h k ≤ 8) :
    Calls Try.prog 71 #[.agg #[vN, vH]] w fun e w' => e = .returned (.bool (joinF s.nodes s.nodes.length s.head default)) ∧ Hid (Below w.heap.size w w') := by
  obtain ⟨⟨aN, cN, rfl⟩, ⟨aH, cH, rfl⟩⟩ := h.form
  have h63 : (s.nodes.length : Int) ≤ 9223372036854775807 := by
    obtain ⟨_, _, e, h4, h5⟩ := h.nodes.len
    have := h.len
    unfold maxLen at h5
    omega
  generalize hJ : joinF s.nodes s.nodes.length s.head default = J
  have HJ : Hid (joinF s.nodes s.nodes.length s.head default = J) := hJ
  have HV : Hid (SkE w (.slice aN s.nodes.length cN) (.slice aH s.head.length cH) s es) := h
  have H8 : Hid (s.head.length = 8) := h8
  have HH : Hid (∀ k, k < s.nodes.length → 1 ≤ s.h k ∧ s.h k ≤ 8) := hh
  have hB0 : Hid (JnA w ((w.alloc (.cells #[.slice aN s.nodes.length cN, .slice aH s.head.length cH] 85)).alloc (.cells #[.int .i64 0, .int .i64 0, .int .i64 0, .int .i64 0, .int .i64 0, .int .i64 0, .int .i64 0, .int .i64 0] 98)) (.slice aN s.nodes.length cN) (.slice aH s.head.length cH) [0, 0, 0, 0, 0, 0, 0, 0]) := by
    refine ⟨up_al (up_al (Below.refl _ _) _) _, blk_up (blk_new w _) (up_alloc _ _), ?_⟩
    have := blk_new (w.alloc (.cells #[.slice aN s.nodes.length cN, .slice aH s.head.length cH] 85)) (.cells #[.int .i64 0, .int .i64 0, .int .i64 0, .int .i64 0, .int .i64 0, .int .i64 0, .int .i64 0, .int .i64 0] 98)
    have e : (w.alloc (.cells #[.slice aN s.nodes.length cN, .slice aH s.head.length cH] 85)).heap.size = w.heap.size + 1 := by simp
    rw [e] at this
    exact this
  clear h h8 hh hJ
  go_enter Try.func71, Try.ntmps71
  go_wp2_with fail
  go_loopw [10] (fun q wr => ∃ (i : Nat) (W : List Int), i ≤ 8 ∧ q = .int .i64 (i : Int) ∧ Hid (W.length = 8 ∧ ∀ l, l < i → W.getD l 0 = s.head.getD l 0) ∧ Hid (JnA w wr (.slice aN s.nodes.length cN) (.slice aH s.head.length cH) W)) (fun q _ => 8 - (intOf q).toNat)
  case atStart => exact ⟨0, _, by omega, rfl, ⟨rfl, fun l hl => by omega⟩, hB0⟩
  case round =>
    clear hB0
    obtain ⟨i, W, hi, rfl, HW, HB⟩ := hrel
    have p1 : wr.cell? ⟨w.heap.size, 1, none⟩ = some (.slice aH s.head.length cH) := blk_cell HB.out.2.1 1 _ rfl
    have p0 : wr.cell? ⟨w.heap.size, 0, none⟩ = some (.slice aN s.nodes.length cN) := blk_cell HB.out.2.1 0 _ rfl
    by_cases hlt : i < 8
    · have hlt' : (i : Int) < 8 := by omega
      obtain ⟨b, off, cap, n, e, hn, hc⟩ := (HV.out.up HB.out.1).head.at i (by rw [H8.out]; exact hlt)
      simp only [Value.slice.injEq] at e
      obtain ⟨rfl, _, rfl⟩ := e
      have hl2 : (i : Int) < (s.head.length : Int) := by rw [H8.out]; omega
      have HN : Hid (s.head.getD i 0 = n) := by unfold Hid; simp [List.getD, hn]
      have q0 := blk_cell HB.out.2.2 i _ (arrI_get W i (by rw [HW.out.1]; exact hlt))
      have fz := blk_frozen HB.out.2.2 i
      clear hn
      go_wp2_with fail
      refine ⟨⟨i + 1, W.set i n, by omega, by go_num, ⟨by rw [List.length_set]; exact HW.out.1, fun l hl => ?_⟩, HB.out.set i n⟩, by simp [intOf]; omega⟩
      rw [getD_set]
      by_cases e : l = i
      · subst e
        rw [if_pos ⟨rfl, by rw [HW.out.1]; exact hlt⟩, HN.out]
      · rw [if_neg (fun r => e r.1)]
        exact HW.out.2 l (by omega)
    · have hlt' : ¬ (i : Int) < 8 := by omega
      have eW : W = s.head := ints_ext (by rw [HW.out.1, H8.out]) (fun l hl => HW.out.2 l (by rw [HW.out.1] at hl; omega))
      subst eW
      have HB5 : Hid (JnB w (wr.alloc (.cells #[.string ⟨#[]⟩, .int .i64 0, .int .i64 0, .string ⟨#[]⟩] 36)) (.slice aN s.nodes.length cN) (.slice aH s.head.length cH) s.head wr.heap.size default) := by
        refine ⟨HB.out.up (up_alloc _ _), ?_, blk_new _ _⟩
        exact blk_lt HB.out.2.2
      have P0 : (wr.alloc (.cells #[.string ⟨#[]⟩, .int .i64 0, .int .i64 0, .string ⟨#[]⟩] 36)).cell? ⟨w.heap.size, 0, none⟩ = some (.slice aN s.nodes.length cN) := blk_cell HB5.out.1.2.1 0 _ rfl
      generalize hN5 : wr.heap.size = N5 at *
      clear HB HW p0 p1
      go_wp2_with fail
      go_loopw [24] (fun q wx => ∃ (i : Nat) (W : List Int) (last : En), i ≤ s.nodes.length ∧ q = .int .i64 (i : Int) ∧ Hid (W.length = 8 ∧ joinF s.nodes (s.nodes.length - i) W last = J) ∧ Hid (JnB w wx (.slice aN s.nodes.length cN) (.slice aH s.head.length cH) W N5 last)) (fun q _ => s.nodes.length - (intOf q).toNat)
      case atStart => exact ⟨0, s.head, default, by omega, rfl, ⟨H8.out, HJ.out⟩, HB5⟩
      case round =>
        clear HB5 P0
        clear hlt hlt' hi
        obtain ⟨i, W, last, hi, rfl, HW, HB⟩ := hrel
        have p0 : wr.cell? ⟨w.heap.size, 0, none⟩ = some (.slice aN s.nodes.length cN) := blk_cell HB.out.1.2.1 0 _ rfl
        have q0 := blk_cell HB.out.1.2.2 0 _ (arrI_get W 0 (by rw [HW.out.1]; omega))
        by_cases hlt : i < s.nodes.length
        · have hlt' : (i : Int) < (s.nodes.length : Int) := by omega
          have HJ1 : Hid (joinF s.nodes (s.nodes.length - i - 1 + 1) W last = J) := by
            have := HW.out.2
            rw [show s.nodes.length - i = s.nodes.length - i - 1 + 1 by omega] at this
            exact this
          have HW8 : Hid (W.length = 8) := HW.out.1
          clear HW
          generalize hnum : W.getD 0 0 = num at *
          have HNUM : Hid (W.getD 0 0 = num) := hnum
          clear hnum
          by_cases g1 : num < 1
          · have hJ : J = false := by
              have := HJ1.out
              unfold joinF at this
              rw [HNUM.out, if_pos (.inl g1)] at this
              exact this.symm
            subst hJ
            go_wp2_with fail
            go_ret
            exact ⟨rfl, HB.out.1.1⟩
          · by_cases g2 : (s.nodes.length : Int) < num
            · have hJ : J = false := by
                have := HJ1.out
                unfold joinF at this
                rw [HNUM.out, if_pos (.inr g2)] at this
                exact this.symm
              subst hJ
              go_wp2_with fail
              go_ret
              exact ⟨rfl, HB.out.1.1⟩
            · obtain ⟨k, rfl⟩ : ∃ k : Nat, num = (k : Int) + 1 := ⟨(num - 1).toNat, by omega⟩
              have hk : k < s.nodes.length := by omega
              have hkn' : (k : Int) < (s.nodes.length : Int) := by omega
              have hwr1 : IntKind.i64.wrap (k : Int) = (k : Int) := by simp [IntKind.wrap, IntKind.bits, IntKind.signed]; omega
              have hwr2 : IntKind.i64.wrap ((k : Int) + 1 - 1) = (k : Int) := by rw [Int.add_sub_cancel]; exact hwr1
              have hk0 : 0 ≤ (k : Int) := by omega
              have hk1 : (k : Int) + 1 - 1 = (k : Int) := by omega
              have HJ2 : Hid ((if beforeE last (s.at' k).1 = true then match stepW (s.at' k).2 0 ((k : Int) + 1) W with | none => false | some W' => joinF s.nodes (s.nodes.length - i - 1) W' (s.at' k).1 else false) = J) := by
                have := HJ1.out
                unfold joinF at this
                rw [HNUM.out, if_neg (by omega), show ((k : Int) + 1 - 1).toNat = k by omega] at this
                exact this
              obtain ⟨b, off, an, cn, rfl, _, hw, y0, y1, y2, y3, y4⟩ := (HV.out.up HB.out.1.1).node k hk
              have HHK : Hid (1 ≤ s.h k ∧ s.h k ≤ 8) := HH.out k hk
              have HNX : Hid (∀ w', Below w.heap.size w w' → IntsR w' (.slice an (s.h k) cn) (s.at' k).2) := by
                intro w' hb
                have := (HV.out.up hb).way (k + 1) (by omega)
                rw [hw] at this
                exact this
              have HHL : Hid ((s.at' k).2.length = s.h k) := rfl
              generalize hy : (s.at' k).1 = y at *
              generalize hnx : (s.at' k).2 = NX at *
              generalize hhk : s.h k = HK at *
              clear HJ1 hw hy hnx hhk
              obtain ⟨wz, hwz⟩ : ∃ wz, wz = wr.alloc (.cells #[.string y.key, .int .i64 y.seq, .int .i64 y.kind, .string y.val, .slice an HK cn] 108) := ⟨_, rfl⟩
              have HU : Hid (Below wr.heap.size wr wz) := by rw [hwz]; exact up_alloc _ _
              have HBz : Hid (JnB w wz (.slice (some ⟨b, off, none⟩) s.nodes.length cN) (.slice aH s.head.length cH) W N5 last ∧ wz.heap[wr.heap.size]? = some (.cells #[.string y.key, .int .i64 y.seq, .int .i64 y.kind, .string y.val, .slice an HK cn] 108) ∧ N5 < wr.heap.size) := by
                refine ⟨HB.out.up HU.out, by rw [hwz]; exact blk_new _ _, blk_lt HB.out.2.2⟩
              have HWZ : Hid (wr.alloc (.cells #[.string y.key, .int .i64 y.seq, .int .i64 y.kind, .string y.val, .slice an HK cn] 108) = wz) := hwz.symm
              have l0 : (wr.alloc (.cells #[.string y.key, .int .i64 y.seq, .int .i64 y.kind, .string y.val, .slice an HK cn] 108)).cell? ⟨N5, 0, none⟩ = some (.string last.key) := by rw [HWZ.out]; exact blk_cell HBz.out.1.2.2 0 _ rfl
              have l1 : (wr.alloc (.cells #[.string y.key, .int .i64 y.seq, .int .i64 y.kind, .string y.val, .slice an HK cn] 108)).cell? ⟨N5, 1, none⟩ = some (.int .i64 last.seq) := by rw [HWZ.out]; exact blk_cell HBz.out.1.2.2 1 _ rfl
              have l2 : (wr.alloc (.cells #[.string y.key, .int .i64 y.seq, .int .i64 y.kind, .string y.val, .slice an HK cn] 108)).cell? ⟨N5, 2, none⟩ = some (.int .i64 last.kind) := by rw [HWZ.out]; exact blk_cell HBz.out.1.2.2 2 _ rfl
              have l3 : (wr.alloc (.cells #[.string y.key, .int .i64 y.seq, .int .i64 y.kind, .string y.val, .slice an HK cn] 108)).cell? ⟨N5, 3, none⟩ = some (.string last.val) := by rw [HWZ.out]; exact blk_cell HBz.out.1.2.2 3 _ rfl
              clear hwz HB
              generalize hN7 : wr.heap.size = N7 at *
              have n0 : (wr.alloc (.cells #[.string y.key, .int .i64 y.seq, .int .i64 y.kind, .string y.val, .slice an HK cn] 108)).cell? ⟨N7, 0, none⟩ = some (.string y.key) := by rw [HWZ.out]; exact blk_cell HBz.out.2.1 0 _ rfl
              have n1 : (wr.alloc (.cells #[.string y.key, .int .i64 y.seq, .int .i64 y.kind, .string y.val, .slice an HK cn] 108)).cell? ⟨N7, 1, none⟩ = some (.int .i64 y.seq) := by rw [HWZ.out]; exact blk_cell HBz.out.2.1 1 _ rfl
              have n2 : (wr.alloc (.cells #[.string y.key, .int .i64 y.seq, .int .i64 y.kind, .string y.val, .slice an HK cn] 108)).cell? ⟨N7, 2, none⟩ = some (.int .i64 y.kind) := by rw [HWZ.out]; exact blk_cell HBz.out.2.1 2 _ rfl
              have n3 : (wr.alloc (.cells #[.string y.key, .int .i64 y.seq, .int .i64 y.kind, .string y.val, .slice an HK cn] 108)).cell? ⟨N7, 3, none⟩ = some (.string y.val) := by rw [HWZ.out]; exact blk_cell HBz.out.2.1 3 _ rfl
              have HC := before_any last y wz
              unfold enV at HC
              go_wp2_with fail
              rw [HWZ.out]
              cases hb : beforeE last y
              · have hJ : J = false := by
                  have := HJ2.out
                  rw [hb] at this
                  exact this.symm
                subst hJ
                rw [hb] at HC
                refine HC.mono ?_
                rintro e w' ⟨rfl, rfl⟩
                have U3 : Hid (Below w.heap.size w ((wz.alloc (enObj last)).alloc (enObj y))) := up_al (up_al HBz.out.1.1.1 _) _
                unfold enObj at U3
                clear HC
                go_wp2_with fail
                go_ret
                exact ⟨rfl, U3⟩
              · rw [hb] at HC
                have HJ3 : Hid ((match stepW NX 0 ((k : Int) + 1) W with | none => false | some W' => joinF s.nodes (s.nodes.length - i - 1) W' y) = J) := by
                  have := HJ2.out
                  rw [hb, if_pos rfl] at this
                  exact this
                refine HC.mono ?_
                rintro e w' ⟨rfl, hw'⟩
                have U3 : Hid (Below wz.heap.size wz w') := by rw [hw']; exact up_al (up_al (Below.refl _ _) _) _
                have HB3 : Hid (JnB w w' (.slice (some ⟨b, off, none⟩) s.nodes.length cN) (.slice aH s.head.length cH) W N5 last ∧ w'.heap[N7]? = some (.cells #[.string y.key, .int .i64 y.seq, .int .i64 y.kind, .string y.val, .slice an HK cn] 108) ∧ N5 < N7) := ⟨HBz.out.1.up U3.out, blk_up HBz.out.2.1 U3.out, HBz.out.2.2⟩
                clear HC hw' HJ2 hb HBz l0 l1 l2 l3 n0 n1 n2 n3 y0 y1 y2 y3 y4 p0 q0 HWZ HU U3
                have m4 : w'.cell? ⟨N7, 4, none⟩ = some (.slice an HK cn) := blk_cell HB3.out.2.1 4 _ rfl
                go_wp2_with fail
                go_loopw [51] (fun q wx => ∃ (j : Nat) (W' : List Int), j ≤ HK ∧ q = .int .i64 (j : Int) ∧ Hid (W'.length = 8 ∧ stepW (NX.drop j) j ((k : Int) + 1) W' = stepW NX 0 ((k : Int) + 1) W) ∧ Hid (JnB w wx (.slice (some ⟨b, off, none⟩) s.nodes.length cN) (.slice aH s.head.length cH) W' N5 last ∧ wx.heap[N7]? = some (.cells #[.string y.key, .int .i64 y.seq, .int .i64 y.kind, .string y.val, .slice an HK cn] 108))) (fun q _ => HK - (intOf q).toNat)
                case atStart => exact ⟨0, W, by omega, rfl, ⟨HW8.out, rfl⟩, HB3.out.1, HB3.out.2.1⟩
                case round =>
                  have HN57 : Hid (N5 < N7) := HB3.out.2.2
                  clear HB3 m4
                  obtain ⟨j, W', hj, rfl, HW', HB⟩ := hrel
                  by_cases hjl : j < HK
                  · have hjl' : (j : Int) < (HK : Int) := by omega
                    have hj8 : j < 8 := by have := HHK.out; omega
                    have hj8' : (j : Int) < 8 := by omega
                    obtain ⟨bx, ox, cx, nx, e, hnx, hcx⟩ := (HNX.out _ HB.out.1.1.1).at j (by rw [HHL.out]; exact hjl)
                    simp only [Value.slice.injEq] at e
                    obtain ⟨rfl, _, rfl⟩ := e
                    have q1 := blk_cell HB.out.1.1.2.2 j _ (arrI_get W' j (by rw [HW'.out.1]; exact hj8))
                    have HD : Hid (stepW (NX.drop j) j ((k : Int) + 1) W' = if W'.getD j 0 = (k : Int) + 1 then stepW (NX.drop (j + 1)) (j + 1) ((k : Int) + 1) (W'.set j nx) else none) := by
                      unfold Hid
                      have hjn : j < NX.length := by rw [HHL.out]; exact hjl
                      rw [List.drop_eq_getElem_cons hjn]
                      have : NX[j] = nx := by
                        have := List.getElem?_eq_some_iff.1 hnx
                        exact this.2
                      rw [this]
                      rfl
                    have fz := blk_frozen HB.out.1.1.2.2 j
                    clear hnx
                    generalize hwv : W'.getD j 0 = wv at *
                    by_cases hq : wv = (k : Int) + 1
                    · subst hq
                      rw [if_pos rfl] at HD
                      have hq2 : ((k : Int) + 1 != (k : Int) + 1) = false := by simp
                      go_wp2_with fail
                      refine ⟨⟨j + 1, W'.set j nx, by omega, by go_num, ⟨by rw [List.length_set]; exact HW'.out.1, by rw [← HD.out]; exact HW'.out.2⟩, HB.out.1.set j nx, ?_⟩, by simp [intOf]; omega⟩
                      refine blk_at2 (C := 0) HB.out.2 ?_
                      have h1 := HB.out.1.2.1
                      have h2 := HN57.out
                      simp only
                      omega
                    · rw [if_neg hq] at HD
                      have hq2 : (wv != (k : Int) + 1) = true := by simpa using hq
                      have hJ : J = false := by
                        have := HJ3.out
                        rw [← HW'.out.2, HD.out] at this
                        exact this.symm
                      subst hJ
                      go_wp2_with fail
                      go_ret
                      exact ⟨rfl, HB.out.1.1.1⟩
                  · obtain rfl : j = HK := by omega
                    have HJ4 : Hid (joinF s.nodes (s.nodes.length - i - 1) W' y = J) := by
                      have := HJ3.out
                      rw [← HW'.out.2, ← HHL.out, List.drop_length] at this
                      exact this
                    have n0 : wr.cell? ⟨N7, 0, none⟩ = some (.string y.key) := blk_cell HB.out.2 0 _ rfl
                    have n1 : wr.cell? ⟨N7, 1, none⟩ = some (.int .i64 y.seq) := blk_cell HB.out.2 1 _ rfl
                    have n2 : wr.cell? ⟨N7, 2, none⟩ = some (.int .i64 y.kind) := blk_cell HB.out.2 2 _ rfl
                    have n3 : wr.cell? ⟨N7, 3, none⟩ = some (.string y.val) := blk_cell HB.out.2 3 _ rfl
                    have l0 : wr.cell? ⟨N5, 0, none⟩ = some (.string last.key) := blk_cell HB.out.1.2.2 0 _ rfl
                    have l1 : wr.cell? ⟨N5, 1, none⟩ = some (.int .i64 last.seq) := blk_cell HB.out.1.2.2 1 _ rfl
                    have l2 : wr.cell? ⟨N5, 2, none⟩ = some (.int .i64 last.kind) := blk_cell HB.out.1.2.2 2 _ rfl
                    have l3 : wr.cell? ⟨N5, 3, none⟩ = some (.string last.val) := blk_cell HB.out.1.2.2 3 _ rfl
                    have fz := fun k => blk_frozen HB.out.1.2.2 k
                    go_wp2_with fail
                    refine ⟨⟨i + 1, W', y, by omega, by go_num, ⟨HW'.out.1, ?_⟩, HB.out.1.last y⟩, by simp [intOf]; omega⟩
                    rw [show s.nodes.length - (i + 1) = s.nodes.length - i - 1 by omega]
                    exact HJ4.out
        · obtain rfl : i = s.nodes.length := by omega
          obtain ⟨a0, a1, a2, a3, a4, a5, a6, a7, rfl⟩ := eightI W HW.out.1
          have hJ : J = decide ([a0, a1, a2, a3, a4, a5, a6, a7] = List.replicate 8 (0 : Int)) := by
            have := HW.out.2
            rw [Nat.sub_self] at this
            exact this.symm
          have c0 : wr.cell? ⟨w.heap.size + 1, 0, none⟩ = some (.int .i64 a0) := blk_cell HB.out.1.2.2 0 _ rfl
          have c1 : wr.cell? ⟨w.heap.size + 1, 1, none⟩ = some (.int .i64 a1) := blk_cell HB.out.1.2.2 1 _ rfl
          have c2 : wr.cell? ⟨w.heap.size + 1, 2, none⟩ = some (.int .i64 a2) := blk_cell HB.out.1.2.2 2 _ rfl
          have c3 : wr.cell? ⟨w.heap.size + 1, 3, none⟩ = some (.int .i64 a3) := blk_cell HB.out.1.2.2 3 _ rfl
          have c4 : wr.cell? ⟨w.heap.size + 1, 4, none⟩ = some (.int .i64 a4) := blk_cell HB.out.1.2.2 4 _ rfl
          have c5 : wr.cell? ⟨w.heap.size + 1, 5, none⟩ = some (.int .i64 a5) := blk_cell HB.out.1.2.2 5 _ rfl
          have c6 : wr.cell? ⟨w.heap.size + 1, 6, none⟩ = some (.int .i64 a6) := blk_cell HB.out.1.2.2 6 _ rfl
          have c7 : wr.cell? ⟨w.heap.size + 1, 7, none⟩ = some (.int .i64 a7) := blk_cell HB.out.1.2.2 7 _ rfl
          clear q0 HW
          subst hJ
          have EQ := eq_eight [a0, a1, a2, a3, a4, a5, a6, a7] (List.replicate 8 0) rfl rfl wr
          have EQ' : (Op.equalIn 10000 98 (.agg #[.int .i64 a0, .int .i64 a1, .int .i64 a2, .int .i64 a3, .int .i64 a4, .int .i64 a5, .int .i64 a6, .int .i64 a7]) (.agg #[.int .i64 0, .int .i64 0, .int .i64 0, .int .i64 0, .int .i64 0, .int .i64 0, .int .i64 0, .int .i64 0])).run Try.prog wr = .ok (decide ([a0, a1, a2, a3, a4, a5, a6, a7] = List.replicate 8 (0 : Int))) wr := EQ
          clear EQ
          generalize hDD : decide ([a0, a1, a2, a3, a4, a5, a6, a7] = List.replicate 8 (0 : Int)) = DD at *
          go_wp2_with fail
          go_ret
          exact ⟨by rw [hDD]; rfl, HB.out.1.1⟩
end Go.Proofs.Ytibjjhceiohmeaa

/- The program's Check: 0 where a list may be, else 9. -/
namespace Go.Proofs.Ytibjjhceiohmeaa
open Go.RowKit
set_option linter.unusedVariables false
set_option linter.unusedSimpArgs false

def errC (s : Sk) : Int := if checkS s = true then 0 else 9
theorem errC_bad {s : Sk} (h : ¬ Good s) : errC s = 9 := by
  unfold errC
  rw [if_neg (fun q => h ((checkS_iff s).1 q))]
theorem errC_good {s : Sk} (h : Good s) : errC s = 0 := by
  unfold errC
  rw [if_pos ((checkS_iff s).2 h)]

set_option maxHeartbeats 1000000 in
set_option maxRecDepth 100000 in
theorem check_any (s : Sk) (es : List (En × Value)) (vN vH : Value) (w : World) (h : SkE w vN vH s es) :
    Calls Try.prog 60 #[.agg #[vN, vH]] w fun e w' => e = .returned (.int .i64 (errC s)) ∧ Hid (Below w.heap.size w w') := by
  obtain ⟨⟨aN, cN, rfl⟩, ⟨aH, cH, rfl⟩⟩ := h.form
  have h63 : (s.nodes.length : Int) ≤ 9223372036854775807 := by
    obtain ⟨_, _, e, h4, h5⟩ := h.nodes.len
    have := h.len
    unfold maxLen at h5
    omega
  have h64 : (s.head.length : Int) ≤ 9223372036854775807 := by
    obtain ⟨_, _, e, h4, h5⟩ := h.head.len
    unfold maxLen at h5
    omega
  have HU0 : Hid (Below w.heap.size w (w.alloc (.cells #[.slice aN s.nodes.length cN, .slice aH s.head.length cH] 85))) := up_alloc _ _
  by_cases g1 : s.nodes.length ≤ 4096
  · have g1' : ¬ (4096 : Int) < (s.nodes.length : Int) := by omega
    by_cases g2 : s.head.length = 8
    · have HV : Hid (SkE w (.slice aN s.nodes.length cN) (.slice aH s.head.length cH) s es) := h
      have HB0 : Hid ((w.alloc (.cells #[.slice aN s.nodes.length cN, .slice aH s.head.length cH] 85)).heap[w.heap.size]? = some (.cells #[.slice aN s.nodes.length cN, .slice aH s.head.length cH] 85)) := blk_new _ _
      have H8 : Hid (s.head.length = 8) := g2
      have g2' : ((s.head.length : Int) != 8) = false := by simp; omega
      generalize hHL : s.head.length = HL at *
      have HHL : Hid (s.head.length = HL) := hHL
      clear h hHL g2
      go_enter Try.func60, Try.ntmps60
      go_wp2_with fail
      go_loopw [18] (fun q wr => ∃ (i : Nat), i ≤ s.nodes.length ∧ q = .int .i64 (i : Int) ∧ Hid (∀ k, k < i → mayE (s.at' k).1 = true ∧ 1 ≤ s.h k ∧ s.h k ≤ 8) ∧ Hid (Below w.heap.size w wr ∧ wr.heap[w.heap.size]? = some (.cells #[.slice aN s.nodes.length cN, .slice aH HL cH] 85))) (fun q _ => s.nodes.length - (intOf q).toNat)
      case atStart => exact ⟨0, by omega, rfl, fun k hk => by omega, HU0, HB0⟩
      case round =>
        clear HU0 HB0
        obtain ⟨i, hi, rfl, HG, HB⟩ := hrel
        have p0 : wr.cell? ⟨w.heap.size, 0, none⟩ = some (.slice aN s.nodes.length cN) := blk_cell HB.out.2 0 _ rfl
        have p1 : wr.cell? ⟨w.heap.size, 1, none⟩ = some (.slice aH HL cH) := blk_cell HB.out.2 1 _ rfl
        by_cases hlt : i < s.nodes.length
        · have hlt' : (i : Int) < (s.nodes.length : Int) := by omega
          obtain ⟨b, off, an, cn, rfl, _, hw, y0, y1, y2, y3, y4⟩ := (HV.out.up HB.out.1).node i hlt
          have HEX : Hid (¬ (mayE (s.at' i).1 = true ∧ 1 ≤ s.h i ∧ s.h i ≤ 8) → errC s = 9) := by
            intro hn
            refine errC_bad (fun g => hn ⟨g.may i hlt, g.high i hlt⟩)
          have HEM : Hid (mayE (s.at' i).1 = true → 1 ≤ s.h i ∧ s.h i ≤ 8 → ∀ k, k < i + 1 → mayE (s.at' k).1 = true ∧ 1 ≤ s.h k ∧ s.h k ≤ 8) := by
            intro h1 h2 k hk
            by_cases e : k = i
            · subst e; exact ⟨h1, h2⟩
            · exact HG.out k (by omega)
          have hk63 : (s.h i : Int) ≤ 9223372036854775807 := by
            have := (HV.out.up HB.out.1).way (i + 1) (by omega)
            obtain ⟨_, _, _, h4, h5⟩ := this.len
            unfold maxLen at h5
            have e : (s.ways (i + 1)).length = s.h i := rfl
            omega
          generalize hy : (s.at' i).1 = y at *
          generalize hhk : s.h i = HK at *
          generalize hER : errC s = ER at *
          have HER : Hid (errC s = ER) := hER
          clear hw hy hhk
          obtain ⟨wz, hwz⟩ : ∃ wz, wz = wr.alloc (.cells #[.string y.key, .int .i64 y.seq, .int .i64 y.kind, .string y.val, .slice an HK cn] 108) := ⟨_, rfl⟩
          have HWZ : Hid (wr.alloc (.cells #[.string y.key, .int .i64 y.seq, .int .i64 y.kind, .string y.val, .slice an HK cn] 108) = wz) := hwz.symm
          have HC := mayStand_any y wz
          unfold enV at HC
          have HU2 : Hid (Below wr.heap.size wr (wz.alloc (enObj y))) := by rw [hwz]; exact up_al (up_alloc _ _) _
          have HB2 : Hid (Below w.heap.size w (wz.alloc (enObj y)) ∧ (wz.alloc (enObj y)).heap[w.heap.size]? = some (.cells #[.slice (some ⟨b, off, none⟩) s.nodes.length cN, .slice aH HL cH] 85)) := ⟨up_trans HB.out.1 HU2.out, blk_up HB.out.2 HU2.out⟩
          have c4 : (wz.alloc (enObj y)).cell? ⟨wr.heap.size, 4, none⟩ = some (.slice an HK cn) := by
            have : wz.heap[wr.heap.size]? = some (.cells #[.string y.key, .int .i64 y.seq, .int .i64 y.kind, .string y.val, .slice an HK cn] 108) := by rw [hwz]; exact blk_new _ _
            exact blk_cell (blk_up this (up_alloc wz (enObj y))) 4 _ rfl
          clear hwz HB HG hER
          go_wp2_with fail
          rw [HWZ.out]
          cases hm : mayE y
          · obtain rfl : ER = 9 := HEX.out (fun q => by rw [hm] at q; cases q.1)
            rw [hm] at HC
            refine HC.mono ?_
            rintro e w' ⟨rfl, rfl⟩
            clear HC
            go_wp2_with fail
            go_ret
            exact ⟨by rw [HER.out]; rfl, HB2.out.1⟩
          · rw [hm] at HC
            refine HC.mono ?_
            rintro e w' ⟨rfl, hw'⟩
            rw [← hw'] at HU2 HB2 c4
            have HR := mayReach_any (HK : Int) w'
            clear HC hw'
            generalize hN7 : wr.heap.size = N7 at *
            by_cases hr : 1 ≤ HK ∧ HK ≤ 8
            · have e : reachP (HK : Int) = true := by simp [reachP]; omega
              rw [e] at HR
              go_wp2_with fail
              refine HR.mono ?_
              rintro e w2 ⟨rfl, rfl⟩
              clear HR
              go_wp2_with fail
              exact ⟨⟨i + 1, by omega, by go_num, HEM.out hm hr, HB2⟩, by simp [intOf]; omega⟩
            · have e : reachP (HK : Int) = false := by simp [reachP]; omega
              rw [e] at HR
              obtain rfl : ER = 9 := HEX.out (fun q => hr q.2)
              go_wp2_with fail
              refine HR.mono ?_
              rintro e w2 ⟨rfl, rfl⟩
              clear HR
              go_wp2_with fail
              go_ret
              exact ⟨by rw [HER.out]; rfl, HB2.out.1⟩
        · obtain rfl : i = s.nodes.length := by omega
          have HC := joined_any s es (.slice aN s.nodes.length cN) (.slice aH s.head.length cH) wr (HV.out.up HB.out.1 |> fun q => by rw [HHL.out]; exact q) (by rw [HHL.out]; exact H8.out) (fun k hk => (HG.out k hk).2)
          rw [HHL.out] at HC
          have HEE : Hid (errC s = if joinF s.nodes s.nodes.length s.head default = true then 0 else 9) := by
            unfold Hid errC checkS
            have a1 : decide (s.nodes.length ≤ 4096) = true := by simp [g1]
            have a2 : decide (s.head.length = 8) = true := by rw [HHL.out, H8.out]; rfl
            have a3 : s.nodes.all (fun nd => mayE nd.1 && checkS.reachP' nd.2.length) = true := by
              rw [List.all_eq_true]
              intro nd hnd
              obtain ⟨k, hk⟩ := List.mem_iff_getElem?.1 hnd
              have hk' := (List.getElem?_eq_some_iff.1 hk).1
              have e : s.at' k = nd := by simp [Sk.at', List.getD, hk]
              have a := HG.out k hk'
              unfold Sk.h at a
              rw [e] at a
              simp [checkS.reachP', a.1, a.2.1, a.2.2]
            rw [a1, a2, a3]
            simp
          generalize hJ : joinF s.nodes s.nodes.length s.head default = J at *
          clear hJ
          go_wp2_with fail
          refine HC.mono ?_
          rintro e w' ⟨rfl, hb⟩
          have HBE : Hid (Below w.heap.size w w') := up_trans HB.out.1 hb.out
          cases J
          · go_wp2_with fail
            go_ret
            exact ⟨by rw [HEE.out]; rfl, HBE⟩
          · go_wp2_with fail
            go_ret
            exact ⟨by rw [HEE.out]; rfl, HBE⟩
    · have e9 : errC s = 9 := errC_bad (fun g => g2 g.head)
      rw [e9]
      have g2' : ((s.head.length : Int) != 8) = true := by simp; omega
      go_enter Try.func60, Try.ntmps60
      go_wp2_with fail
      go_ret
      exact ⟨rfl, HU0⟩
  · have e9 : errC s = 9 := errC_bad (fun g => g1 g.few)
    rw [e9]
    have g1' : (4096 : Int) < (s.nodes.length : Int) := by omega
    go_enter Try.func60, Try.ntmps60
    go_wp2_with fail
    go_ret
    exact ⟨rfl, HU0⟩
end Go.Proofs.Ytibjjhceiohmeaa

/- Plain facts: what Put, Get and All tell. -/
namespace Go.Proofs.Ytibjjhceiohmeaa
open Go.RowKit
set_option linter.unusedVariables false
set_option linter.unusedSimpArgs false

/-- On level 0 a cut parts the order at x, and the way there comes to what is behind. -/
theorem cut0 {s : Sk} {x : En} {a : Nat} (g : Good s) (h : CutAt s s.ord x 0 a) : ∃ A B, s.ord = A ++ B ∧ (∀ k ∈ A, beforeE (s.at' k).1 x = true) ∧ (∀ k ∈ B, beforeE (s.at' k).1 x = false) ∧ ((B = [] ∧ s.way a 0 = 0) ∨ ∃ k B', B = k :: B' ∧ s.way a 0 = (k : Int) + 1 ∧ k < s.nodes.length) := by
  obtain ⟨P, R, e, hE, hP, hR⟩ := h
  have hin : ∀ k ∈ R, 0 < s.h k := by
    intro k hk
    have : k < s.nodes.length := (g.mem k).1 (by rw [e]; simp [hk])
    have := (g.high k this).1
    omega
  have hl := g.link 0 (by omega)
  rw [e] at hl
  have hw := chain_way hl hE
  refine ⟨P, R, e, hP, fun k hk => hR k hk (hin k hk), ?_⟩
  cases R with
  | nil => exact .inl ⟨rfl, hw⟩
  | cons k B' =>
    have := (chain_in (hin k (by simp))).1 hw
    exact .inr ⟨k, B', rfl, this.1, (g.mem k).1 (by rw [e]; simp)⟩
theorem twin_shift {a b c : En} (h : beforeE a b = true) (t : twin b c = true) : beforeE a c = true := by
  simp only [twin, Bool.and_eq_true, beq_iff_eq, decide_eq_true_eq] at t
  simp only [beforeE, ← t.1, ← t.2] at *
  exact h
theorem cut_none {s : Sk} {x : En} {a : Nat} (g : Good s) (h : CutAt s s.ord x 0 a) (hz : s.way a 0 = 0) : ∀ k, k < s.nodes.length → twin (s.at' k).1 x = false := by
  obtain ⟨A, B, e, hA, hB, q⟩ := cut0 g h
  rcases q with ⟨rfl, _⟩ | ⟨k, B', _, hk, _⟩
  · intro k hk
    have : k ∈ A := by
      have := (g.mem k).2 hk
      rw [e] at this
      simpa using this
    cases t : twin (s.at' k).1 x
    · rfl
    · have := hA k this
      rw [twin_before t] at this
      cases this
  · omega
theorem cut_some {s : Sk} {x : En} {a : Nat} (g : Good s) (h : CutAt s s.ord x 0 a) (hz : s.way a 0 ≠ 0) : ∃ k : Nat, s.way a 0 = (k : Int) + 1 ∧ k < s.nodes.length ∧ (beforeE x (s.at' k).1 = false → twin (s.at' k).1 x = true) ∧ (beforeE x (s.at' k).1 = true → ∀ j, j < s.nodes.length → twin (s.at' j).1 x = false) := by
  obtain ⟨A, B, e, hA, hB, q⟩ := cut0 g h
  rcases q with ⟨_, hk⟩ | ⟨k, B', eB, hk, hkn⟩
  · exact absurd hk hz
  · refine ⟨k, hk, hkn, fun hb => before_total (hB k (by rw [eB]; simp)) hb, fun hb j hj => ?_⟩
    cases t : twin (s.at' j).1 x
    · rfl
    · exfalso
      have hm := (g.mem j).2 hj
      rw [e] at hm
      rcases List.mem_append.1 hm with r | r
      · have := hA j r
        rw [twin_before t] at this
        cases this
      · rw [eB] at r
        rcases List.mem_cons.1 r with rfl | r
        · rw [twin_before (twin_symm t)] at hb
          cases hb
        · have hs := g.srt
          rw [e, eB] at hs
          unfold Srt at hs
          rw [List.pairwise_append] at hs
          have := (List.pairwise_cons.1 hs.2.1).1 j r
          rw [Sk.eAt, Sk.eAt] at this
          have h2 := hB k (by rw [eB]; simp)
          rw [twin_shift this t] at h2
          cases h2

/-- The error of Put. -/
def errP (s : Sk) (x : En) (h : Int) : Int :=
  if checkS s = false then 9 else if mayE x = false then 1 else if reachP h = false then 4 else if s.es.any (fun e => twin e x) = true then 6 else if s.nodes.length = 4096 then 51 else 0
/-- What Put answers. -/
def IsPut (s : Sk) (x : En) (h : Int) (t : Sk) : Prop := (errP s x h ≠ 0 → t = ⟨[], []⟩) ∧ (errP s x h = 0 → Good t ∧ t.es = s.es ++ [x] ∧ t.hs = s.hs ++ [h.toNat])
theorem IsPut.one {s t u : Sk} {x : En} {h : Int} (a : IsPut s x h t) (b : IsPut s x h u) : t = u := by
  by_cases q : errP s x h = 0
  · obtain ⟨g1, e1, h1⟩ := a.2 q
    obtain ⟨g2, e2, h2⟩ := b.2 q
    have he : t.es = u.es := e1.trans e2.symm
    have hl : t.nodes.length = u.nodes.length := by rw [← Sk.es_len, ← Sk.es_len, he]
    have ho : t.ord = u.ord := by unfold Sk.ord; rw [he, hl]
    refine linked_unique g1.link (by rw [ho]; exact g2.link) he (h1.trans h2.symm) (fun k hk => (g1.mem k).2 hk) g1.high8 g1.head g2.head
  · rw [a.1 q, b.1 q]
theorem es_any (s : Sk) (x : En) : s.es.any (fun e => twin e x) = true ↔ ∃ k, k < s.nodes.length ∧ twin (s.at' k).1 x = true := by
  rw [List.any_eq_true]
  constructor
  · rintro ⟨e, he, ht⟩
    obtain ⟨k, hk⟩ := List.mem_iff_getElem?.1 he
    have hk' := (List.getElem?_eq_some_iff.1 hk).1
    refine ⟨k, by rw [← Sk.es_len]; exact hk', ?_⟩
    rw [← Sk.eAt]
    have : eAt s.es k = e := by simp [eAt, List.getD, hk]
    rw [this]
    exact ht
  · rintro ⟨k, hk, ht⟩
    refine ⟨eAt s.es k, ?_, by rw [Sk.eAt]; exact ht⟩
    have hk' : k < s.es.length := by rw [Sk.es_len]; exact hk
    simp [eAt, List.getD, hk']

/-- All versions, in order. -/
def Sk.all (s : Sk) : List En := s.ord.map fun k => (s.at' k).1
/-- The first version of a key with at most a number. -/
def firstS (l : List En) (key : ByteArray) (seq : Int) : Option En := l.find? fun e => (e.key.toList == key.toList) && decide (e.seq ≤ seq)
theorem key_total {a b : ByteArray} (h1 : Op.bytesLess a.toList b.toList = false) (h2 : ¬ a.toList = b.toList) : Op.bytesLess b.toList a.toList = true := by
  cases q : Op.bytesLess b.toList a.toList
  · exact absurd (blS_total _ _ h1 q) h2
  · rfl
theorem get_none {s : Sk} {x : En} {a : Nat} (g : Good s) (h : CutAt s s.ord x 0 a) (hz : s.way a 0 = 0) : firstS s.all x.key x.seq = none := by
  obtain ⟨A, B, e, hA, hB, q⟩ := cut0 g h
  rcases q with ⟨rfl, _⟩ | ⟨k, B', _, hk, _⟩
  · unfold firstS Sk.all
    rw [List.find?_eq_none]
    intro y hy
    rw [e, List.append_nil] at hy
    obtain ⟨k, hk, rfl⟩ := List.mem_map.1 hy
    have hb := hA k hk
    simp only [beforeE, Bool.or_eq_true, Bool.and_eq_true, beq_iff_eq, decide_eq_true_eq] at hb
    simp only [Bool.and_eq_true, beq_iff_eq, decide_eq_true_eq, not_and]
    intro e1
    rcases hb with hb | ⟨_, hb⟩
    · rw [e1, blS_self] at hb; cases hb
    · omega
  · omega
theorem get_some {s : Sk} {x : En} {a : Nat} (g : Good s) (h : CutAt s s.ord x 0 a) (k : Nat) (hz : s.way a 0 = (k : Int) + 1) : firstS s.all x.key x.seq = if (s.at' k).1.key.toList = x.key.toList then some (s.at' k).1 else none := by
  obtain ⟨A, B, e, hA, hB, q⟩ := cut0 g h
  rcases q with ⟨_, hk⟩ | ⟨k', B', eB, hk, hkn⟩
  · omega
  · obtain rfl : k' = k := by omega
    have hAn : (A.map fun k => (s.at' k).1).find? (fun e => (e.key.toList == x.key.toList) && decide (e.seq ≤ x.seq)) = none := by
      rw [List.find?_eq_none]
      intro y hy
      obtain ⟨j, hj, rfl⟩ := List.mem_map.1 hy
      have hb := hA j hj
      simp only [beforeE, Bool.or_eq_true, Bool.and_eq_true, beq_iff_eq, decide_eq_true_eq] at hb
      simp only [Bool.and_eq_true, beq_iff_eq, decide_eq_true_eq, not_and]
      intro e1
      rcases hb with hb | ⟨_, hb⟩
      · rw [e1, blS_self] at hb; cases hb
      · omega
    unfold firstS Sk.all
    rw [e, List.map_append, List.find?_append, hAn, Option.none_or, eB, List.map_cons]
    have hbk := hB k' (by rw [eB]; simp)
    simp only [beforeE, Bool.or_eq_false_iff, Bool.and_eq_false_iff, beq_eq_false_iff_ne, decide_eq_false_iff_not] at hbk
    by_cases hq : (s.at' k').1.key.toList = x.key.toList
    · rw [if_pos hq]
      have hseq : (s.at' k').1.seq ≤ x.seq := by
        rcases hbk.2 with r | r
        · exact absurd hq r
        · omega
      rw [List.find?_cons_of_pos]
      simp [hq, hseq]
    · rw [if_neg hq, List.find?_eq_none]
      have hgt : Op.bytesLess x.key.toList (s.at' k').1.key.toList = true := key_total hbk.1 hq
      intro y hy
      simp only [Bool.and_eq_true, beq_iff_eq, decide_eq_true_eq, not_and]
      intro e1
      exfalso
      rcases List.mem_cons.1 hy with rfl | hy
      · exact hq e1
      · obtain ⟨j, hj, rfl⟩ := List.mem_map.1 hy
        have hs := g.srt
        rw [e, eB] at hs
        unfold Srt at hs
        rw [List.pairwise_append] at hs
        have hb := (List.pairwise_cons.1 hs.2.1).1 j hj
        rw [Sk.eAt, Sk.eAt] at hb
        simp only [beforeE, Bool.or_eq_true, Bool.and_eq_true, beq_iff_eq, decide_eq_true_eq] at hb
        rcases hb with hb | ⟨hb, _⟩
        · have := blS_trans _ _ _ hgt hb
          rw [e1, blS_self] at this
          cases this
        · rw [← e1, ← hb, blS_self] at hgt
          cases hgt
end Go.Proofs.Ytibjjhceiohmeaa

/- The program's Put. -/
namespace Go.Proofs.Ytibjjhceiohmeaa
open Go.RowKit
set_option linter.unusedVariables false
set_option linter.unusedSimpArgs false

theorem noneOwn (w : World) (base : Nat) (t : TypeId) : OwnSk w base t (.slice none 0 0) (.slice none 0 0) ⟨[], []⟩ [] :=
  ⟨rfl, OwnR.nil _ _ _ _, OwnR.nil _ _ _ _, (fun k p hk => by simp at hk), by simp⟩
/-- The boxes of Put: the list, the version, the result. -/
def PuB (w wr : World) (vN vH : Value) (x : En) : Prop :=
  Below w.heap.size w wr ∧ wr.heap[w.heap.size]? = some (.cells #[vN, vH] 85) ∧ wr.heap[w.heap.size + 1]? = some (enObj x) ∧ wr.heap[w.heap.size + 2]? = some (.cells #[.slice none 0 0, .slice none 0 0] 85)
theorem PuB.up {w wr w' : World} {vN vH : Value} {x : En} (h : PuB w wr vN vH x) (hb : Below wr.heap.size wr w') : PuB w w' vN vH x :=
  ⟨up_trans h.1 hb, blk_up h.2.1 hb, blk_up h.2.2.1 hb, blk_up h.2.2.2 hb⟩

set_option maxHeartbeats 4000000 in
set_option maxRecDepth 100000 in
theorem putS_any (s : Sk) (es : List (En × Value)) (vN vH : Value) (x : En) (h : Int) (w : World) (hV : SkE w vN vH s es) :
    Calls Try.prog 51 #[.agg #[vN, vH], enV x, .int .i64 h] w fun e w' => ∃ vN' vH' t es', e = .returned (.tuple #[.agg #[vN', vH'], .int .i64 (errP s x h)]) ∧ Hid (OwnSk w' w.heap.size 108 vN' vH' t es' ∧ IsPut s x h t) ∧ Hid (Below w.heap.size w w') := by
  obtain ⟨⟨aN, cN, rfl⟩, ⟨aH, cH, rfl⟩⟩ := hV.form
  have HV : Hid (SkE w (.slice aN s.nodes.length cN) (.slice aH s.head.length cH) s es) := hV
  clear hV
  unfold enV
  obtain ⟨wa, hwa⟩ : ∃ wa, wa = ((w.alloc (.cells #[.slice aN s.nodes.length cN, .slice aH s.head.length cH] 85)).alloc (enObj x)).alloc (.cells #[.slice none 0 0, .slice none 0 0] 85) := ⟨_, rfl⟩
  have HWA : Hid (((w.alloc (.cells #[.slice aN s.nodes.length cN, .slice aH s.head.length cH] 85)).alloc (enObj x)).alloc (.cells #[.slice none 0 0, .slice none 0 0] 85) = wa) := hwa.symm
  have HB : Hid (PuB w wa (.slice aN s.nodes.length cN) (.slice aH s.head.length cH) x) := by
    have q := blk4 w (.cells #[.slice aN s.nodes.length cN, .slice aH s.head.length cH] 85) (enObj x) (.cells #[.slice none 0 0, .slice none 0 0] 85) (enObj x)
    rw [← hwa] at q
    have u := up_alloc wa (enObj x)
    have hs : wa.heap.size = w.heap.size + 3 := by rw [hwa]; simp
    refine ⟨by rw [hwa]; exact up_al (up_al (up_al (Below.refl _ _) _) _) _, (u.block _ (by omega)).symm.trans q.1, (u.block _ (by omega)).symm.trans q.2.1, (u.block _ (by omega)).symm.trans q.2.2.1⟩
  unfold enObj at HWA
  have p0 : wa.cell? ⟨w.heap.size, 0, none⟩ = some (.slice aN s.nodes.length cN) := blk_cell HB.out.2.1 0 _ rfl
  have p1 : wa.cell? ⟨w.heap.size, 1, none⟩ = some (.slice aH s.head.length cH) := blk_cell HB.out.2.1 1 _ rfl
  have HC := check_any s es _ _ wa (HV.out.up HB.out.1)
  clear hwa
  -- a refusal
  have HEND : Hid (∀ (wz : World) (code : Int), PuB w wz (.slice aN s.nodes.length cN) (.slice aH s.head.length cH) x → errP s x h = code → code ≠ 0 →
      ((wz.setCell ⟨w.heap.size + 2, 0, none⟩ (.slice none 0 0)).setCell ⟨w.heap.size + 2, 1, none⟩ (.slice none 0 0)).heap[w.heap.size + 2]? = some (.cells #[.slice none 0 0, .slice none 0 0] 85) ∧
      ∃ vN' vH' t es', Ending.returned (.tuple #[.agg #[.slice none 0 0, .slice none 0 0], .int .i64 code]) = .returned (.tuple #[.agg #[vN', vH'], .int .i64 (errP s x h)]) ∧ Hid (OwnSk ((wz.setCell ⟨w.heap.size + 2, 0, none⟩ (.slice none 0 0)).setCell ⟨w.heap.size + 2, 1, none⟩ (.slice none 0 0)) w.heap.size 108 vN' vH' t es' ∧ IsPut s x h t) ∧ Hid (Below w.heap.size w ((wz.setCell ⟨w.heap.size + 2, 0, none⟩ (.slice none 0 0)).setCell ⟨w.heap.size + 2, 1, none⟩ (.slice none 0 0)))) := by
    intro wz code hb he hne
    refine ⟨set2_blk hb.2.2.2 _ _, _, _, ⟨[], []⟩, [], by rw [he], ⟨noneOwn _ _ _, fun _ => rfl, fun q => absurd (he.symm.trans q) hne⟩, ?_⟩
    exact hb.1.grown (set2_grown wz (w.heap.size + 2) _ _) hb.1.size (fun k hk => by injection hk with hk; rw [← hk]; omega)
  have HCELLS : Hid (∀ wz, PuB w wz (.slice aN s.nodes.length cN) (.slice aH s.head.length cH) x → wz.cell? ⟨w.heap.size + 2, 0, none⟩ = some (.slice none 0 0) ∧ wz.cell? ⟨w.heap.size + 2, 1, none⟩ = some (.slice none 0 0) ∧ ∀ k, wz.frozen? ⟨w.heap.size + 2, k, none⟩ = false) := fun wz hb => ⟨blk_cell hb.2.2.2 0 _ rfl, blk_cell hb.2.2.2 1 _ rfl, fun k => blk_frozen hb.2.2.2 k⟩
  have HXC : Hid (∀ wz, PuB w wz (.slice aN s.nodes.length cN) (.slice aH s.head.length cH) x → wz.cell? ⟨w.heap.size + 1, 0, none⟩ = some (.string x.key) ∧ wz.cell? ⟨w.heap.size + 1, 1, none⟩ = some (.int .i64 x.seq) ∧ wz.cell? ⟨w.heap.size + 1, 2, none⟩ = some (.int .i64 x.kind) ∧ wz.cell? ⟨w.heap.size + 1, 3, none⟩ = some (.string x.val)) := fun wz hb => ⟨blk_cell hb.2.2.1 0 _ rfl, blk_cell hb.2.2.1 1 _ rfl, blk_cell hb.2.2.1 2 _ rfl, blk_cell hb.2.2.1 3 _ rfl⟩
  have HPC : Hid (∀ wz, PuB w wz (.slice aN s.nodes.length cN) (.slice aH s.head.length cH) x → wz.cell? ⟨w.heap.size, 0, none⟩ = some (.slice aN s.nodes.length cN) ∧ wz.cell? ⟨w.heap.size, 1, none⟩ = some (.slice aH s.head.length cH)) := fun wz hb => ⟨blk_cell hb.2.1 0 _ rfl, blk_cell hb.2.1 1 _ rfl⟩
  go_enter Try.func51, Try.ntmps51
  go_upto_region 1 with fail
  rw [HWA.out]
  clear HWA
  go_wp2_with fail
  refine HC.mono ?_
  rintro e w1 ⟨rfl, U1⟩
  have HB1 : Hid (PuB w w1 (.slice aN s.nodes.length cN) (.slice aH s.head.length cH) x) := HB.out.up U1.out
  clear HC p0 p1 HB U1
  by_cases hG : checkS s = true
  · have e0 : errC s = 0 := by unfold errC; rw [if_pos hG]
    rw [e0]
    have HG : Hid (Good s) := (checkS_iff s).1 hG
    have HCK : Hid (checkS s = true) := hG
    clear hG e0
    obtain ⟨x0, x1, x2, x3⟩ := HXC.out _ HB1.out
    have HM := mayStand_any x w1
    unfold enV at HM
    go_wp2_with fail
    refine HM.mono ?_
    rintro e w2 ⟨rfl, hw2⟩
    have HB2 : Hid (PuB w w2 (.slice aN s.nodes.length cN) (.slice aH s.head.length cH) x) := by rw [hw2]; exact HB1.out.up (up_alloc _ _)
    clear HM hw2 x0 x1 x2 x3 HB1
    cases hm : mayE x
    · have HE : Hid (errP s x h = 1) := by
        unfold Hid errP
        rw [HCK.out, hm]
        simp
      obtain ⟨d0, d1, f0⟩ := HCELLS.out _ HB2.out
      go_wp2_with fail
      obtain ⟨hz1, hz2⟩ := HEND.out w2 1 HB2.out HE.out (by decide)
      exact bodyPost_ret (results_st2 (q := 6) (r := 7) rfl (.inl rfl) _ _ rfl hz1) rfl hz2
    · have HR := mayReach_any h w2
      go_wp2_with fail
      refine HR.mono ?_
      rintro e w3 ⟨rfl, hw3⟩
      have HB3 : Hid (PuB w w3 (.slice aN s.nodes.length cN) (.slice aH s.head.length cH) x) := by rw [hw3]; exact HB2.out
      clear HR hw3 HB2
      cases hr : reachP h
      · have HE : Hid (errP s x h = 4) := by
          unfold Hid errP
          rw [HCK.out, hm, hr]
          simp
        obtain ⟨d0, d1, f0⟩ := HCELLS.out _ HB3.out
        go_wp2_with fail
        obtain ⟨hz1, hz2⟩ := HEND.out w3 4 HB3.out HE.out (by decide)
        exact bodyPost_ret (results_st2 (q := 6) (r := 7) rfl (.inl rfl) _ _ rfl hz1) rfl hz2
      · have HH : Hid (1 ≤ h ∧ h ≤ 8) := by have := hr; simp only [reachP, decide_eq_true_eq] at this; exact this
        obtain ⟨hN, rfl⟩ := Int.eq_ofNat_of_zero_le (show 0 ≤ h by have := HH.out; omega)
        have HMY : Hid (mayE x = true) := hm
        have HRC : Hid (reachP (hN : Int) = true) := hr
        obtain ⟨x0, x1, x2, x3⟩ := HXC.out _ HB3.out
        obtain ⟨p0, p1⟩ := HPC.out _ HB3.out
        have HA := ahead_any s es _ _ x s.ord w3 (HV.out.up HB3.out.1) HG.out.head HG.out.link HG.out.srt (fun k hk => (HG.out.mem k).1 hk)
        unfold enV at HA
        clear hm hr
        go_wp2_with fail
        refine HA.mono ?_
        rintro e w4 ⟨L, rfl, HL, U4⟩
        obtain ⟨a0, a1, a2, a3, a4, a5, a6, a7, rfl⟩ := eight L HL.out.1
        have HB4 : Hid (PuB w w4 (.slice aN s.nodes.length cN) (.slice aH s.head.length cH) x) := HB3.out.up U4.out
        have HCUT : Hid (∀ l, l < 8 → CutAt s s.ord x l ([a0, a1, a2, a3, a4, a5, a6, a7].getD l 0)) := HL.out.2
        clear HA x0 x1 x2 x3 p0 p1 HB3 U4 HL
        have eArr : arrC [a0, a1, a2, a3, a4, a5, a6, a7] = #[.int .i64 (a0 : Int), .int .i64 (a1 : Int), .int .i64 (a2 : Int), .int .i64 (a3 : Int), .int .i64 (a4 : Int), .int .i64 (a5 : Int), .int .i64 (a6 : Int), .int .i64 (a7 : Int)] := rfl
        rw [eArr]
        -- the box of the numbers
        obtain ⟨w5, hw5⟩ : ∃ w5, w5 = w4.alloc (.cells #[.int .i64 (a0 : Int), .int .i64 (a1 : Int), .int .i64 (a2 : Int), .int .i64 (a3 : Int), .int .i64 (a4 : Int), .int .i64 (a5 : Int), .int .i64 (a6 : Int), .int .i64 (a7 : Int)] 98) := ⟨_, rfl⟩
        have HW5 : Hid (w4.alloc (.cells #[.int .i64 (a0 : Int), .int .i64 (a1 : Int), .int .i64 (a2 : Int), .int .i64 (a3 : Int), .int .i64 (a4 : Int), .int .i64 (a5 : Int), .int .i64 (a6 : Int), .int .i64 (a7 : Int)] 98) = w5) := hw5.symm
        have HB5 : Hid (PuB w w5 (.slice aN s.nodes.length cN) (.slice aH s.head.length cH) x ∧ w5.heap[w4.heap.size]? = some (.cells #[.int .i64 (a0 : Int), .int .i64 (a1 : Int), .int .i64 (a2 : Int), .int .i64 (a3 : Int), .int .i64 (a4 : Int), .int .i64 (a5 : Int), .int .i64 (a6 : Int), .int .i64 (a7 : Int)] 98)) := by
          rw [hw5]
          exact ⟨HB4.out.up (up_alloc _ _), blk_new _ _⟩
        obtain ⟨p0, p1⟩ := HPC.out _ HB5.out.1
        have HL5 : Hid (∀ wz : World, wz.heap[w4.heap.size]? = some (.cells #[.int .i64 (a0 : Int), .int .i64 (a1 : Int), .int .i64 (a2 : Int), .int .i64 (a3 : Int), .int .i64 (a4 : Int), .int .i64 (a5 : Int), .int .i64 (a6 : Int), .int .i64 (a7 : Int)] 98) → wz.cell? ⟨w4.heap.size, 0, none⟩ = some (.int .i64 (a0 : Int)) ∧ wz.cell? ⟨w4.heap.size, 1, none⟩ = some (.int .i64 (a1 : Int)) ∧ wz.cell? ⟨w4.heap.size, 2, none⟩ = some (.int .i64 (a2 : Int)) ∧ wz.cell? ⟨w4.heap.size, 3, none⟩ = some (.int .i64 (a3 : Int)) ∧ wz.cell? ⟨w4.heap.size, 4, none⟩ = some (.int .i64 (a4 : Int)) ∧ wz.cell? ⟨w4.heap.size, 5, none⟩ = some (.int .i64 (a5 : Int)) ∧ wz.cell? ⟨w4.heap.size, 6, none⟩ = some (.int .i64 (a6 : Int)) ∧ wz.cell? ⟨w4.heap.size, 7, none⟩ = some (.int .i64 (a7 : Int))) := fun wz hb => ⟨blk_cell hb 0 _ rfl, blk_cell hb 1 _ rfl, blk_cell hb 2 _ rfl, blk_cell hb 3 _ rfl, blk_cell hb 4 _ rfl, blk_cell hb 5 _ rfl, blk_cell hb 6 _ rfl, blk_cell hb 7 _ rfl⟩
        obtain ⟨l0, l1, l2, l3, l4, l5, l6, l7⟩ := HL5.out _ HB5.out.2
        have HC0 : Hid (CutAt s s.ord x 0 a0) := HCUT.out 0 (by omega)
        have HA0 : Hid (a0 ≤ s.nodes.length ∧ 0 < (s.ways a0).length) := ⟨HC0.out.on.bound (fun k hk => (HG.out.mem k).1 hk), HC0.out.on.ways HG.out.head (by omega)⟩
        clear hw5 HB4
        by_cases hz : s.way a0 0 = 0
        · have HNT : Hid (∀ k, k < s.nodes.length → twin (s.at' k).1 x = false) := cut_none HG.out HC0.out hz
          have HBE := behind_none s es _ _ a0 a1 a2 a3 a4 a5 a6 a7 w5 (HV.out.up HB5.out.1.1) HA0.out.1 HA0.out.2 hz
          unfold natV enV at HBE
          clear hz
          have l0' := l0
          rw [← HW5.out] at p0 p1 l0 l1 l2 l3 l4 l5 l6 l7
          go_wp2_with fail
          rw [HW5.out]
          refine HBE.mono ?_
          rintro e w6 ⟨rfl, U6⟩
          have HB6 : Hid (PuB w w6 (.slice aN s.nodes.length cN) (.slice aH s.head.length cH) x ∧ w6.heap[w4.heap.size]? = some (.cells #[.int .i64 (a0 : Int), .int .i64 (a1 : Int), .int .i64 (a2 : Int), .int .i64 (a3 : Int), .int .i64 (a4 : Int), .int .i64 (a5 : Int), .int .i64 (a6 : Int), .int .i64 (a7 : Int)] 98)) := ⟨HB5.out.1.up U6.out, blk_up HB5.out.2 U6.out⟩
          clear HBE p0 p1 l0 l1 l2 l3 l4 l5 l6 l7 l0' HB5 U6
          generalize hN9 : w4.heap.size = N9 at *
          clear hN9
          obtain ⟨wz, hwz⟩ : ∃ wz, wz = w6.alloc (enObj default) := ⟨_, rfl⟩
          have HWZ : Hid (w6.alloc (.cells #[.string (default : En).key, .int .i64 (default : En).seq, .int .i64 (default : En).kind, .string (default : En).val] 36) = wz) := hwz.symm
          have HBz : Hid (PuB w wz (.slice aN s.nodes.length cN) (.slice aH s.head.length cH) x ∧ wz.heap[N9]? = some (.cells #[.int .i64 (a0 : Int), .int .i64 (a1 : Int), .int .i64 (a2 : Int), .int .i64 (a3 : Int), .int .i64 (a4 : Int), .int .i64 (a5 : Int), .int .i64 (a6 : Int), .int .i64 (a7 : Int)] 98)) := by
            rw [hwz]
            exact ⟨HB6.out.1.up (up_alloc _ _), blk_up HB6.out.2 (up_alloc _ _)⟩
          clear hwz HB6
          go_upto_region 12 with fail
          rw [HWZ.out]
          clear HWZ
          have HANY : Hid (s.es.any (fun e => twin e x) = false) := by
            unfold Hid
            cases q : s.es.any (fun e => twin e x)
            · rfl
            · obtain ⟨k2, hk2, ht⟩ := (es_any s x).1 q
              rw [HNT.out k2 hk2] at ht
              cases ht
          by_cases hf : s.nodes.length = 4096
          · have HE : Hid (errP s x (hN : Int) = 51) := by
              unfold Hid errP
              rw [HCK.out, HMY.out, HRC.out, HANY.out, if_pos hf]
              simp
            obtain ⟨d0, d1, f0⟩ := HCELLS.out _ HBz.out.1
            obtain ⟨p0, p1⟩ := HPC.out _ HBz.out.1
            have hf2 : ((s.nodes.length : Int) == 4096) = true := by simp; omega
            go_wp2_with fail
            obtain ⟨hz1, hz2⟩ := HEND.out wz 51 HBz.out.1 HE.out (by decide)
            exact bodyPost_ret (results_st2 (q := 6) (r := 7) rfl (.inl rfl) _ _ rfl hz1) rfl hz2
          · have hf2 : ((s.nodes.length : Int) == 4096) = false := by simp; omega
            have HE : Hid (errP s x (hN : Int) = 0) := by
              unfold Hid errP
              rw [HCK.out, HMY.out, HRC.out, HANY.out, if_neg hf]
              simp
            obtain ⟨p0, p1⟩ := HPC.out _ HBz.out.1
            obtain ⟨x0, x1, x2, x3⟩ := HXC.out _ HBz.out.1
            obtain ⟨l0, l1, l2, l3, l4, l5, l6, l7⟩ := HL5.out _ HBz.out.2
            have HWW := with_any s es _ _ x hN a0 a1 a2 a3 a4 a5 a6 a7 wz (HV.out.up HBz.out.1.1) HG.out (by have := HH.out; omega) (by have := HH.out; omega) HCUT.out (by have := HG.out.few; omega)
            unfold enV natV at HWW
            go_wp2_with fail
            refine HWW.mono ?_
            rintro e wq ⟨vN', vH', es', rfl, OQ, UQ⟩
            clear HWW p0 p1 x0 x1 x2 x3 l0 l1 l2 l3 l4 l5 l6 l7
            have HBq : Hid (PuB w wq (.slice aN s.nodes.length cN) (.slice aH s.head.length cH) x) := HBz.out.1.up UQ.out
            obtain ⟨⟨aM, cM, rfl⟩, ⟨aG, cG, rfl⟩⟩ := OQ.out.read.form
            obtain ⟨d0, d1, f0⟩ := HCELLS.out _ HBq.out
            have HFIN : Hid (OwnSk wq w.heap.size 108 (.slice aM (putF s x (fun l => [a0, a1, a2, a3, a4, a5, a6, a7].getD l 0) hN).nodes.length cM) (.slice aG (putF s x (fun l => [a0, a1, a2, a3, a4, a5, a6, a7].getD l 0) hN).head.length cG) (putF s x (fun l => [a0, a1, a2, a3, a4, a5, a6, a7].getD l 0) hN) es' ∧ IsPut s x (hN : Int) (putF s x (fun l => [a0, a1, a2, a3, a4, a5, a6, a7].getD l 0) hN)) := by
              refine ⟨OQ.out.mono HBz.out.1.1.size, fun q => absurd HE.out q, fun _ => ⟨putF_good HG.out HMY.out (by have := HH.out; omega) (by have := HH.out; omega) HCUT.out (by have := HG.out.few; omega) HNT.out, putF_es _ _ _ _, ?_⟩⟩
              rw [putF_hs]
              simp
            generalize hS2 : putF s x (fun l => [a0, a1, a2, a3, a4, a5, a6, a7].getD l 0) hN = S2 at *
            generalize hn2 : S2.nodes.length = n2 at *
            generalize hm2 : S2.head.length = m2 at *
            clear hS2 hn2 hm2
            go_wp2_with fail
            refine bodyPost_ret (results_st2 (q := 6) (r := 7) rfl (.inl rfl) _ _ rfl (set2_blk HBq.out.2.2.2 (.slice aM n2 cM) (.slice aG m2 cG))) rfl ?_
            have g2 := set2_grown wq (w.heap.size + 2) (.slice aM n2 cM) (.slice aG m2 cG)
            refine ⟨_, _, S2, es', by rw [HE.out]; rfl, ⟨HFIN.out.1.block HBq.out.2.2.2 (by decide) (by decide) g2, HFIN.out.2⟩, ?_⟩
            exact HBq.out.1.grown g2 HBq.out.1.size (fun k hk => by injection hk with hk; rw [← hk]; omega)
        · obtain ⟨k, hkw, hkn, hTw, hNo⟩ := cut_some HG.out HC0.out hz
          have HBE := behind_some s es _ _ a0 a1 a2 a3 a4 a5 a6 a7 k w5 (HV.out.up HB5.out.1.1) HA0.out.1 HA0.out.2 hkw hkn
          have HTW : Hid (beforeE x (s.at' k).1 = false → twin (s.at' k).1 x = true) := hTw
          have HNO : Hid (beforeE x (s.at' k).1 = true → ∀ j, j < s.nodes.length → twin (s.at' j).1 x = false) := hNo
          unfold natV enV at HBE
          clear hz hkw hTw hNo
          rw [← HW5.out] at p0 p1 l0 l1 l2 l3 l4 l5 l6 l7
          have HEX : Hid (∀ code : Nat, twin (s.at' k).1 x = true → errP s x (hN : Int) = 6) := by
            intro _ ht
            have : s.es.any (fun e => twin e x) = true := (es_any s x).2 ⟨k, hkn, ht⟩
            unfold errP
            rw [HCK.out, HMY.out, HRC.out, this]
            simp
          generalize hy : (s.at' k).1 = y at *
          clear hy
          go_wp2_with fail
          rw [HW5.out]
          refine HBE.mono ?_
          rintro e w6 ⟨rfl, U6⟩
          have HB6 : Hid (PuB w w6 (.slice aN s.nodes.length cN) (.slice aH s.head.length cH) x ∧ w6.heap[w4.heap.size]? = some (.cells #[.int .i64 (a0 : Int), .int .i64 (a1 : Int), .int .i64 (a2 : Int), .int .i64 (a3 : Int), .int .i64 (a4 : Int), .int .i64 (a5 : Int), .int .i64 (a6 : Int), .int .i64 (a7 : Int)] 98)) := ⟨HB5.out.1.up U6.out, blk_up HB5.out.2 U6.out⟩
          clear HBE p0 p1 l0 l1 l2 l3 l4 l5 l6 l7 HB5 U6
          generalize hN9 : w4.heap.size = N9 at *
          clear hN9
          obtain ⟨wy, hwy⟩ : ∃ wy, wy = w6.alloc (enObj y) := ⟨_, rfl⟩
          have HWY : Hid (w6.alloc (.cells #[.string y.key, .int .i64 y.seq, .int .i64 y.kind, .string y.val] 36) = wy) := hwy.symm
          have HBy : Hid (PuB w wy (.slice aN s.nodes.length cN) (.slice aH s.head.length cH) x ∧ wy.heap[N9]? = some (.cells #[.int .i64 (a0 : Int), .int .i64 (a1 : Int), .int .i64 (a2 : Int), .int .i64 (a3 : Int), .int .i64 (a4 : Int), .int .i64 (a5 : Int), .int .i64 (a6 : Int), .int .i64 (a7 : Int)] 98)) := by
            rw [hwy]
            exact ⟨HB6.out.1.up (up_alloc _ _), blk_up HB6.out.2 (up_alloc _ _)⟩
          have HYB : Hid (wy.heap[w6.heap.size]? = some (enObj y)) := by rw [hwy]; exact blk_new _ _
          clear hwy HB6
          obtain ⟨x0, x1, x2, x3⟩ := HXC.out _ HBy.out.1
          have y0 : wy.cell? ⟨w6.heap.size, 0, none⟩ = some (.string y.key) := blk_cell HYB.out 0 _ rfl
          have y1 : wy.cell? ⟨w6.heap.size, 1, none⟩ = some (.int .i64 y.seq) := blk_cell HYB.out 1 _ rfl
          have y2 : wy.cell? ⟨w6.heap.size, 2, none⟩ = some (.int .i64 y.kind) := blk_cell HYB.out 2 _ rfl
          have y3 : wy.cell? ⟨w6.heap.size, 3, none⟩ = some (.string y.val) := blk_cell HYB.out 3 _ rfl
          have HBF := before_any x y wy
          unfold enV at HBF
          go_upto_region 10 with fail
          rw [HWY.out]
          generalize hN10 : w6.heap.size = N10 at *
          clear HWY hN10
          go_wp2_with fail
          refine HBF.mono ?_
          rintro e wz ⟨rfl, hwz⟩
          have HBz : Hid (PuB w wz (.slice aN s.nodes.length cN) (.slice aH s.head.length cH) x ∧ wz.heap[N9]? = some (.cells #[.int .i64 (a0 : Int), .int .i64 (a1 : Int), .int .i64 (a2 : Int), .int .i64 (a3 : Int), .int .i64 (a4 : Int), .int .i64 (a5 : Int), .int .i64 (a6 : Int), .int .i64 (a7 : Int)] 98)) := by
            have u : Below wy.heap.size wy wz := by rw [hwz]; exact up_al (up_al (Below.refl _ _) _) _
            exact ⟨HBy.out.1.up u, blk_up HBy.out.2 u⟩
          clear HBF hwz x0 x1 x2 x3 y0 y1 y2 y3 HYB HBy
          cases hb : beforeE x y
          · have HE : Hid (errP s x (hN : Int) = 6) := HEX.out 0 (HTW.out hb)
            obtain ⟨d0, d1, f0⟩ := HCELLS.out _ HBz.out.1
            go_wp2_with fail
            obtain ⟨hz1, hz2⟩ := HEND.out wz 6 HBz.out.1 HE.out (by decide)
            exact bodyPost_ret (results_st2 (q := 6) (r := 7) rfl (.inl rfl) _ _ rfl hz1) rfl hz2
          · have HNT : Hid (∀ j, j < s.nodes.length → twin (s.at' j).1 x = false) := HNO.out hb
            clear hb
            go_upto_region 12 with fail
            have HANY : Hid (s.es.any (fun e => twin e x) = false) := by
              unfold Hid
              cases q : s.es.any (fun e => twin e x)
              · rfl
              · obtain ⟨k2, hk2, ht⟩ := (es_any s x).1 q
                rw [HNT.out k2 hk2] at ht
                cases ht
            by_cases hf : s.nodes.length = 4096
            · have HE : Hid (errP s x (hN : Int) = 51) := by
                unfold Hid errP
                rw [HCK.out, HMY.out, HRC.out, HANY.out, if_pos hf]
                simp
              obtain ⟨d0, d1, f0⟩ := HCELLS.out _ HBz.out.1
              obtain ⟨p0, p1⟩ := HPC.out _ HBz.out.1
              have hf2 : ((s.nodes.length : Int) == 4096) = true := by simp; omega
              go_wp2_with fail
              obtain ⟨hz1, hz2⟩ := HEND.out wz 51 HBz.out.1 HE.out (by decide)
              exact bodyPost_ret (results_st2 (q := 6) (r := 7) rfl (.inl rfl) _ _ rfl hz1) rfl hz2
            · have hf2 : ((s.nodes.length : Int) == 4096) = false := by simp; omega
              have HE : Hid (errP s x (hN : Int) = 0) := by
                unfold Hid errP
                rw [HCK.out, HMY.out, HRC.out, HANY.out, if_neg hf]
                simp
              obtain ⟨p0, p1⟩ := HPC.out _ HBz.out.1
              obtain ⟨x0, x1, x2, x3⟩ := HXC.out _ HBz.out.1
              obtain ⟨l0, l1, l2, l3, l4, l5, l6, l7⟩ := HL5.out _ HBz.out.2
              have HWW := with_any s es _ _ x hN a0 a1 a2 a3 a4 a5 a6 a7 wz (HV.out.up HBz.out.1.1) HG.out (by have := HH.out; omega) (by have := HH.out; omega) HCUT.out (by have := HG.out.few; omega)
              unfold enV natV at HWW
              go_wp2_with fail
              refine HWW.mono ?_
              rintro e wq ⟨vN', vH', es', rfl, OQ, UQ⟩
              clear HWW p0 p1 x0 x1 x2 x3 l0 l1 l2 l3 l4 l5 l6 l7
              have HBq : Hid (PuB w wq (.slice aN s.nodes.length cN) (.slice aH s.head.length cH) x) := HBz.out.1.up UQ.out
              obtain ⟨⟨aM, cM, rfl⟩, ⟨aG, cG, rfl⟩⟩ := OQ.out.read.form
              obtain ⟨d0, d1, f0⟩ := HCELLS.out _ HBq.out
              have HFIN : Hid (OwnSk wq w.heap.size 108 (.slice aM (putF s x (fun l => [a0, a1, a2, a3, a4, a5, a6, a7].getD l 0) hN).nodes.length cM) (.slice aG (putF s x (fun l => [a0, a1, a2, a3, a4, a5, a6, a7].getD l 0) hN).head.length cG) (putF s x (fun l => [a0, a1, a2, a3, a4, a5, a6, a7].getD l 0) hN) es' ∧ IsPut s x (hN : Int) (putF s x (fun l => [a0, a1, a2, a3, a4, a5, a6, a7].getD l 0) hN)) := by
                refine ⟨OQ.out.mono HBz.out.1.1.size, fun q => absurd HE.out q, fun _ => ⟨putF_good HG.out HMY.out (by have := HH.out; omega) (by have := HH.out; omega) HCUT.out (by have := HG.out.few; omega) HNT.out, putF_es _ _ _ _, ?_⟩⟩
                rw [putF_hs]
                simp
              generalize hS2 : putF s x (fun l => [a0, a1, a2, a3, a4, a5, a6, a7].getD l 0) hN = S2 at *
              generalize hn2 : S2.nodes.length = n2 at *
              generalize hm2 : S2.head.length = m2 at *
              clear hS2 hn2 hm2
              go_wp2_with fail
              refine bodyPost_ret (results_st2 (q := 6) (r := 7) rfl (.inl rfl) _ _ rfl (set2_blk HBq.out.2.2.2 (.slice aM n2 cM) (.slice aG m2 cG))) rfl ?_
              have g2 := set2_grown wq (w.heap.size + 2) (.slice aM n2 cM) (.slice aG m2 cG)
              refine ⟨_, _, S2, es', by rw [HE.out]; rfl, ⟨HFIN.out.1.block HBq.out.2.2.2 (by decide) (by decide) g2, HFIN.out.2⟩, ?_⟩
              exact HBq.out.1.grown g2 HBq.out.1.size (fun k hk => by injection hk with hk; rw [← hk]; omega)
  · have e9 : errC s = 9 := by unfold errC; rw [if_neg hG]
    have HE : Hid (errP s x h = 9) := by
      unfold Hid errP
      rw [if_pos (by simpa using hG)]
    rw [e9]
    obtain ⟨d0, d1, f0⟩ := HCELLS.out _ HB1.out
    go_wp2_with fail
    obtain ⟨hz1, hz2⟩ := HEND.out w1 9 HB1.out HE.out (by decide)
    exact bodyPost_ret (results_st2 (q := 6) (r := 7) rfl (.inl rfl) _ _ rfl hz1) rfl hz2
end Go.Proofs.Ytibjjhceiohmeaa
