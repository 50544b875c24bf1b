/- Texts of layers 1 to 13, in this order. -/
import Derived.RangeFuncNested
import Derived.RangeFuncBound
import Derived.RangeFuncCalls
import Derived.RangeFuncLeaves
import Derived.Shelf.Abstract
import Derived.Shelf.RegionOpen
import Derived.OwnWalkIn
import Derived.TacticsInMore
import Derived.LoopNIn
import Derived.LoopIn
import Derived.Sort.QuietIn
import Derived.Test.YthiegmhplnbdlaaGreatG21
import Derived.Test.YthiegmhplnbdlaaGreatG08
import Derived.Test.YthiegmhplnbdlaaGreatG13
import Derived.DeepKeys4
import Derived.MapViews
import Derived.WideKeyEntry
import Derived.WideKeyArgs2
import Derived.RangeFuncRecord

namespace Go.Proofs.YthiegmhplnbdlaaGreat
open Go.RowKit Go.Shelf
set_option linter.unusedVariables false
set_option linter.unusedSimpArgs false
set_option maxRecDepth 20000
attribute [local go_sem] Oper.semAt_some
theorem take_stop {p : En → Bool} : ∀ (a b : List En), (∀ y ∈ a, p y = true) → (∀ y r, b = y :: r → p y = false) → (a ++ b).takeWhile p = a ∧ (a ++ b).dropWhile p = b
  | [], [], _, _ => ⟨rfl, rfl⟩
  | [], y :: b, _, h => by
    have := h y b rfl
    constructor
    · simp [List.takeWhile_cons, this]
    · simp [List.dropWhile_cons, this]
  | x :: a, b, h1, h2 => by
    have hx := h1 x List.mem_cons_self
    have ih := take_stop a b (fun y hy => h1 y (List.mem_cons_of_mem _ hy)) h2
    constructor
    · simp [List.takeWhile_cons, hx, ih.1]
    · simp [List.dropWhile_cons, hx, ih.2]
theorem groups_cut (r : List En) (k : Nat) (hk : 0 < k) (hl : k ≤ r.length) (hs : ∀ m x y, m + 1 < k → r[m]? = some x → r[m + 1]? = some y → KL y = KL x) (he : ∀ x y, r[k - 1]? = some x → r[k]? = some y → KL y ≠ KL x) : groupsM r = r.take k :: groupsM (r.drop k) := by
  cases r with
  | nil => simp at hl; omega
  | cons x r =>
    have hall : ∀ m y, m < k → (x :: r)[m]? = some y → KL y = KL x := by
      intro m
      induction m with
      | zero => intro y _ h; simp at h; rw [h]
      | succ m ih =>
        intro y hm hy
        have hlt := (List.getElem?_eq_some_iff.1 hy).1
        have hx : (x :: r)[m]? = some (x :: r)[m] := List.getElem?_eq_getElem (by omega)
        exact (hs m _ y hm hx hy).trans (ih _ (by omega) hx)
    obtain ⟨j, rfl⟩ : ∃ j, k = j + 1 := ⟨k - 1, by omega⟩
    simp only [List.length_cons] at hl
    have h1 : ∀ y ∈ r.take j, sameK x y = true := by
      intro y hy
      obtain ⟨m, hm⟩ := List.getElem?_of_mem hy
      have hml := (List.getElem?_eq_some_iff.1 hm).1
      rw [List.length_take] at hml
      rw [List.getElem?_take_of_lt (by omega)] at hm
      exact sameK_iff.2 (hall (m + 1) y (by omega) (by simpa using hm))
    have h2 : ∀ y q, r.drop j = y :: q → sameK x y = false := by
      intro y q hq
      have hy : r[j]? = some y := by
        have := congrArg (fun l => l[0]?) hq
        simpa [List.getElem?_drop] using this
      have hx : (x :: r)[j]? = some (x :: r)[j] := List.getElem?_eq_getElem (by simp; omega)
      have := he _ y hx (by simpa using hy)
      rw [hall j _ (by omega) hx] at this
      cases t : sameK x y with
      | false => rfl
      | true => exact absurd (sameK_iff.1 t) this
    have h3 := take_stop (r.take j) (r.drop j) h1 h2
    rw [List.take_append_drop] at h3
    conv => lhs; unfold groupsM
    rw [h3.1, h3.2, List.take_succ_cons, List.drop_succ_cons]
theorem groups_nil : groupsM [] = [] := by unfold groupsM; rfl
theorem byKey_any (a : Option Addr) (n c : Nat) (w : World) : Calls Tryz.prog 44 #[.slice a n c] w fun e w' => e = .returned (.func (.func 76) #[] #[.pointer (some ⟨w.heap.size, 0, none⟩)]) ∧ w' = w.alloc (.cells #[.slice a n c] 42) := by
  go_enter Tryz.func44, Tryz.ntmps44
  go_wp2
  go_ret
  exact ⟨rfl, rfl⟩
def partG (b off c p k : Nat) : Value := .slice (some ⟨b, off + p * 4, none⟩) k (c - p)
theorem key_step {l : List En} {gs : List (List En)} {p i : Nat} (hp : p ≤ i) (hi : i < l.length) (hg : groupsM l = gs ++ groupsM (l.drop p)) (hf : gs.flatten.length = p) (hs : ∀ m x y, p ≤ m → m + 1 ≤ i → l[m]? = some x → l[m + 1]? = some y → KL y = KL x)
    (he : ∀ x y, l[i]? = some x → l[i + 1]? = some y → KL y ≠ KL x) :
    groupsM l = (gs ++ [(l.drop p).take (i + 1 - p)]) ++ groupsM (l.drop (i + 1)) ∧ (gs ++ [(l.drop p).take (i + 1 - p)]).flatten.length = i + 1 := by
  constructor
  · have := groups_cut (l.drop p) (i + 1 - p) (by omega) (by rw [List.length_drop]; omega) (fun m x y hm hx hy => hs (p + m) x y (by omega) (by omega) (by simpa [List.getElem?_drop] using hx) (by simpa [List.getElem?_drop, Nat.add_assoc] using hy)) (fun x y hx hy => he x y (by
        rw [List.getElem?_drop] at hx
        rw [show p + (i + 1 - p - 1) = i by omega] at hx
        exact hx) (by
        rw [List.getElem?_drop] at hy
        rw [show p + (i + 1 - p) = i + 1 by omega] at hy
        exact hy))
    rw [hg, this, List.drop_drop, show p + (i + 1 - p) = i + 1 by omega]
    simp
  · rw [List.flatten_append, List.length_append, hf]
    simp [List.length_take, List.length_drop]
    omega
set_option maxHeartbeats 4000000 in
theorem key_in (m lp Bf : Nat) (l : List En) (a : Option Addr) (b off c : Nat) (ha : l ≠ [] → a = some ⟨b, off, none⟩) (hnc : l.length ≤ c) (hmx : l.length ≤ 4611686018427387904) (J : Nat → World → Prop) (W : World)
    (hY : ∀ (j p : Nat) (g : List En) (W0 : World), (groupsM l)[j]? = some g → p = ((groupsM l).take j).flatten.length → J j W0 → YieldAt Fence.wide (m - 1) Tryz.prog lp #[partG b off c p g.length] W0 fun e W' => e = .returned (.bool true) ∧ J (j + 1) W')
    (hK : ∀ i W', J i W' → W'.cell? ⟨Bf, 0, none⟩ = some (.slice a l.length c) ∧ EntsR W' (.slice a l.length c) l)
    (hA : ∀ i W' o, J i W' → J i (W'.alloc o))
    (hD : ∀ i W' d, J i W' → J i (W'.drewN d))
    (hJ : J 0 W) :
    CallsIn Fence.wide m Tryz.prog 76 #[.func (.yield lp) #[] #[], .pointer (some ⟨Bf, 0, none⟩)] W fun e W' => (∃ v, e = .returned v) ∧ J (groupsM l).length W' := by
  refine callsIn_of_wp Tryz.func76 rfl trivial ?_ rfl
  simp only [Tryz.ntmps76, List.size_toArray, List.length_cons, List.length_nil, Nat.reduceAdd, Nat.reduceSub, Array.replicate_succ, Array.replicate_zero, List.push_toArray, List.append_toArray, List.nil_append, List.cons_append]
  have k0 := (hK 0 W hJ).1
  have HYH := hid hY
  have HKH := hid hK
  have HAH := hid hA
  have HDH := hid hD
  have HJH := hid hJ
  clear hY hK hA hD hJ
  gi_wp2
  gi_loopw [3, 8] (fun sp si wr => ∃ (j p i : Nat) (gs : List (List En)), sp = .int .i64 (p : Int) ∧ si = .int .i64 (i : Int) ∧ p ≤ i ∧ i ≤ l.length ∧ Hid (groupsM l = gs ++ groupsM (l.drop p)) ∧ Hid (gs.flatten.length = p) ∧ Hid (gs.length = j) ∧ Hid (∀ m x y, p ≤ m → m + 1 ≤ i → l[m]? = some x → l[m + 1]? = some y → KL y = KL x) ∧ Hid (i = l.length → p = i) ∧ Hid (J j wr)) (fun _ si wr => l.length - (intOf si).toNat)
  case atStart => exact ⟨0, 0, 0, [], rfl, rfl, Nat.le_refl _, Nat.zero_le _, by unfold Hid; simp, rfl, rfl, (fun m x y h1 h2 => by omega), (fun _ => rfl), HJH.out⟩
  case round =>
    obtain ⟨j, p, i, gs, rfl, rfl, hpi, hil, HG, HF, HL, HS, HE, HJ⟩ := hrel
    clear k0
    obtain ⟨k0, kE⟩ := HKH.out j wr HJ.out
    by_cases hlt : i < l.length
    · have hlt' : (i : Int) < (l.length : Int) := by omega
      obtain rfl := ha (fun q => by rw [q] at hlt; simp at hlt)
      clear ha
      obtain ⟨b1, off1, cap1, x, e, hx, z0, z1, z2, z3⟩ := kE.at i hlt
      simp only [Value.slice.injEq, Option.some.injEq, Addr.mk.injEq] at e
      obtain ⟨⟨rfl, rfl, _⟩, _, rfl⟩ := e
      have HX : Hid (l[i]? = some x) := hx
      obtain ⟨wa, hwa⟩ : ∃ wa, wa = wr.alloc (enObj x) := ⟨_, rfl⟩
      have HWA : Hid (wr.alloc (.cells #[.string x.key, .int .i64 x.seq, .int .i64 x.kind, .string x.val] 50) = wa) := hwa.symm
      have HJA : Hid (J j wa) := by rw [hwa]; exact HAH.out j wr _ HJ.out
      have x0 : wa.cell? ⟨wr.heap.size, 0, none⟩ = some (.string x.key) := by rw [hwa]; exact blk_cell (blk_new wr (enObj x)) 0 _ rfl
      have hw1 : IntKind.i64.wrap ((i : Int) + 1) = (i : Int) + 1 := by rw [IntKind.wrap_i64]; omega
      obtain ⟨kc, kF⟩ := HKH.out j wa HJA.out
      clear hx kE hwa HJ
      gi_wp2_with fail
      rw [HWA.out]
      generalize wr.heap.size = NX at *
      have hgo : ∀ W' : World, (∀ x y, l[i]? = some x → l[i + 1]? = some y → KL y ≠ KL x) → J j W' → YieldAt Fence.wide (m - 1) Tryz.prog lp #[partG b off c p (i + 1 - p)] W' fun e W2 => e = .returned (.bool true) ∧ J (j + 1) W2 := by
        intro W' hne hj
        obtain ⟨h1, h2⟩ := key_step hpi hlt HG.out HF.out HS.out hne
        have hl : ((l.drop p).take (i + 1 - p)).length = i + 1 - p := by rw [List.length_take, List.length_drop]; omega
        have hgj : (groupsM l)[j]? = some ((l.drop p).take (i + 1 - p)) := by
          rw [h1, ← HL.out, List.append_assoc, List.getElem?_append_right (Nat.le_refl _)]
          simp
        have := HYH.out j p _ W' hgj (by rw [h1, ← HL.out, List.append_assoc, List.take_left]; exact HF.out.symm) hj
        rw [hl] at this
        exact this
      have hgo := hid hgo
      have HRD : Hid (∀ d, J j (wa.drewN d)) := fun d => HDH.out j wa d HJA.out
      by_cases hn : i + 1 < l.length
      · have hn' : (i : Int) + 1 < (l.length : Int) := by omega
        obtain ⟨b2, off2, cap2, y, e, hy, y0, y1, y2, y3⟩ := kF.at (i + 1) hn
        simp only [Value.slice.injEq, Option.some.injEq, Addr.mk.injEq] at e
        obtain ⟨⟨rfl, rfl, _⟩, _, rfl⟩ := e
        have HY2 : Hid (l[i + 1]? = some y) := hy
        have y0' : wa.cell? ⟨b, off + (i + 1) * 4, none⟩ = some (.string y.key) := y0
        clear hy y1 y2 y3 kF z0 z1 z2 z3
        by_cases hsk : y.key.toList = x.key.toList
        · have hs2 : (y.key.toList == x.key.toList) = true := by simp [hsk]
          have HSN : Hid (∀ m x y, p ≤ m → m + 1 ≤ i + 1 → l[m]? = some x → l[m + 1]? = some y → KL y = KL x) := by
            intro m a d h1 h2 ha hd
            by_cases q : m = i
            · subst q
              rw [HX.out] at ha
              rw [HY2.out] at hd
              cases ha
              cases hd
              exact hsk
            · exact HS.out m a d h1 (by omega) ha hd
          gi_quiet (fail)
          gi_wp2_with fail
          exact ⟨⟨j, p, i + 1, gs, rfl, by simp, by omega, by omega, HG, HF, HL, HSN, (fun h => by omega), HRD.out _⟩, by simp [intOf]; omega⟩
        · have hs2 : (y.key.toList == x.key.toList) = false := by simp [hsk]
          have HNE : Hid (∀ x y, l[i]? = some x → l[i + 1]? = some y → KL y ≠ KL x) := by
            intro a d ha hd
            rw [HX.out] at ha
            rw [HY2.out] at hd
            cases ha
            cases hd
            exact hsk
          gi_quiet (fail)
          obtain ⟨wq, hwq⟩ : ∃ wq, wq = wa.drewN nq := ⟨_, rfl⟩
          have HJQ : Hid (J j wq) := by rw [hwq]; exact HRD.out nq
          rw [← hwq]
          have kq := (HKH.out j wq HJQ.out).1
          have hcp : ¬ c = p := by omega
          have r1 : p ≤ i + 1 := by omega
          have r2 : i + 1 ≤ c := by omega
          have r3 : (p : Int) ≤ (i : Int) + 1 := by omega
          have Y := hgo.out wq HNE.out HJQ.out
          have HST : Hid (groupsM l = (gs ++ [(l.drop p).take (i + 1 - p)]) ++ groupsM (l.drop (i + 1)) ∧ (gs ++ [(l.drop p).take (i + 1 - p)]).flatten.length = i + 1) := key_step hpi hlt HG.out HF.out HS.out HNE.out
          unfold partG at Y
          clear hwq hgo
          obtain ⟨fn, tmps, asg, bod, hy, hR⟩ := Y
          have HR := hid hR
          clear hR
          gi_wp2_with fail
          refine ⟨fun h => (by cases h), HR.out.mono ?_⟩
          rintro e W3 ⟨rfl, hJ3⟩
          have HJ3 : Hid (J (j + 1) W3) := hJ3
          clear hJ3
          gi_wp2_with fail
          exact ⟨⟨j + 1, i + 1, i + 1, _, by simp, by simp, by omega, by omega, HST.out.1, HST.out.2, by unfold Hid; rw [List.length_append, HL.out]; rfl, (fun m x y h1 h2 => by omega), (fun _ => rfl), HJ3⟩, by simp [intOf]; omega⟩
      · have hn' : ¬ (i : Int) + 1 < (l.length : Int) := by omega
        have HNE : Hid (∀ x y, l[i]? = some x → l[i + 1]? = some y → KL y ≠ KL x) := by
          intro a d ha hd
          have := (List.getElem?_eq_some_iff.1 hd).1
          omega
        clear kF z0 z1 z2 z3
        gi_quiet (fail)
        obtain ⟨wq, hwq⟩ : ∃ wq, wq = wa.drewN nq := ⟨_, rfl⟩
        have HJQ : Hid (J j wq) := by rw [hwq]; exact HRD.out nq
        rw [← hwq]
        have kq := (HKH.out j wq HJQ.out).1
        have hcp : ¬ c = p := by omega
        have r1 : p ≤ i + 1 := by omega
        have r2 : i + 1 ≤ c := by omega
        have r3 : (p : Int) ≤ (i : Int) + 1 := by omega
        have Y := hgo.out wq HNE.out HJQ.out
        have HST : Hid (groupsM l = (gs ++ [(l.drop p).take (i + 1 - p)]) ++ groupsM (l.drop (i + 1)) ∧ (gs ++ [(l.drop p).take (i + 1 - p)]).flatten.length = i + 1) := key_step hpi hlt HG.out HF.out HS.out HNE.out
        unfold partG at Y
        clear hwq hgo
        obtain ⟨fn, tmps, asg, bod, hy, hR⟩ := Y
        have HR := hid hR
        clear hR
        gi_wp2_with fail
        refine ⟨fun h => (by cases h), HR.out.mono ?_⟩
        rintro e W3 ⟨rfl, hJ3⟩
        have HJ3 : Hid (J (j + 1) W3) := hJ3
        clear hJ3
        gi_wp2_with fail
        exact ⟨⟨j + 1, i + 1, i + 1, _, by simp, by simp, by omega, by omega, HST.out.1, HST.out.2, by unfold Hid; rw [List.length_append, HL.out]; rfl, (fun m x y h1 h2 => by omega), (fun _ => rfl), HJ3⟩, by simp [intOf]; omega⟩
    · clear ha
      have hlt' : ¬ (i : Int) < (l.length : Int) := by omega
      obtain rfl : i = l.length := by omega
      have hend := HE.out rfl
      have HJE : Hid (J (groupsM l).length wr) := by
        have h1 := HG.out
        rw [hend, List.drop_length, groups_nil, List.append_nil] at h1
        unfold Hid
        rw [h1, HL.out]
        exact HJ.out
      clear hend HE
      gi_wp2
      go_end0
      exact ⟨⟨_, rfl⟩, HJE.out⟩
end Go.Proofs.YthiegmhplnbdlaaGreat

namespace Go.Proofs.YthiegmhplnbdlaaGreat
open Go.RowKit Go.WideMaps Go.WideElems Go.MapKept
open Go.ChangeMaps (setBlock heap_setBlock_same heap_setBlock_other)
set_option linter.unusedVariables false
set_option linter.unusedSimpArgs false
set_option maxRecDepth 100000
def stV (x : En) : Value := .agg #[.string x.key, .int .i64 x.seq]
theorem stV_iff {x y : En} : stV x = stV y ↔ twin x y = true := by
  unfold stV twin
  simp only [Value.agg.injEq, Bool.and_eq_true, beq_iff_eq, decide_eq_true_eq]
  constructor
  · intro h
    simp at h
    exact ⟨by rw [h.1], h.2⟩
  · rintro ⟨h1, h2⟩
    rw [ByteArray.toList_eq, ByteArray.toList_eq] at h1
    have := WideShapes.bytes_inj h1
    rw [this, h2]
theorem laidOutQ : laidOutB Tryz.prog = true := by kernel_rfl
theorem rowSt : (162 : TypeId) < Tryz.prog.types.size := of_decide_eq_true (by kernel_rfl)
theorem deepSt : Tryz.prog.keyTypeAt (Tryz.prog.types.size + 1) 162 = true := by kernel_rfl
theorem wideSt : (match Tryz.prog.underlying 162 with | some (.array _ _) | some (.struct _) => true | _ => false) = true := by kernel_rfl
theorem lawSt : KeyLaw Tryz.prog 162 := deep_law_laid laidOutQ (m := 2) (by omega) rowSt (by kernel_rfl) wideSt
theorem cellsSt : Tryz.prog.cellsOf 162 = 2 := by kernel_rfl
theorem cells9 : Tryz.prog.cellsOf 9 = 1 := by kernel_rfl
theorem cells3 : Tryz.prog.cellsOf 3 = 1 := by kernel_rfl
theorem formedSt (x : En) : (stV x).formed Tryz.prog 162 = true := by
  unfold stV
  simp [Value.formed, Tryz.underlying162, cellsSt]
theorem mayE_parts {x : En} (h : mayE x = true) : x.key.size ≤ 96 ∧ 1 ≤ x.seq ∧ x.seq ≤ 1099511627776 := by
  unfold mayE at h
  simp only [decide_eq_true_eq] at h
  omega
theorem key_st (x : En) (h : mayE x = true) : ∃ l, keyOf Tryz.prog 162 (stV x) = some l := by
  obtain ⟨h1, h2, h3⟩ := mayE_parts h
  have hw : (Lit.int .i64 x.seq).wf = true := WalkArith.wf_i64 ⟨by omega, by omega⟩
  have hd : DataW.Trod (H := Unit) (fun _ => ()) Tryz.prog default 0 (fun _ => true) true 162 (stV x) (.agg [.lit (.string x.key.data.toList), .lit (.int .i64 x.seq)]) [] := by
    refine ⟨2, ?_⟩
    unfold stV
    have hs : x.key.size ≤ maxLen := by unfold maxLen; omega
    simp [Value.cells, DataW.trod, Tryz.underlying162, Tryz.underlying9, Tryz.underlying3, cellsSt, cells9, cells3, hs, hw]
  exact ⟨_, (keyOf_asKey deepSt wideSt (formedSt x) hd).1⟩
def cntT (T : List En) (y : En) : Nat := T.countP (twin y)
theorem twinQ_symm {x y : En} (h : twin x y = true) : twin y x = true := stV_iff.1 (stV_iff.2 h).symm
theorem twin_trans {x y z : En} (h : twin x y = true) (k : twin y z = true) : twin x z = true := stV_iff.1 ((stV_iff.2 h).trans (stV_iff.2 k))
theorem cntT_twin {T : List En} {x y : En} (h : twin x y = true) : cntT T x = cntT T y := by
  unfold cntT
  congr 1
  funext z
  cases q : twin y z with
  | true => exact twin_trans h q
  | false =>
    cases q2 : twin x z with
    | false => rfl
    | true => rw [← q, twin_trans (twinQ_symm h) q2]
theorem cntT_snoc (T : List En) (x y : En) : cntT (T ++ [x]) y = cntT T y + (if twin y x then 1 else 0) := by
  unfold cntT
  rw [List.countP_append, List.countP_cons, List.countP_nil]
  simp
theorem cntT_le (T : List En) (y : En) : cntT T y ≤ T.length := List.countP_le_length
theorem cntT_pos {T : List En} {y : En} : 0 < cntT T y ↔ ∃ x ∈ T, twin y x = true := by unfold cntT; exact List.countP_pos_iff
def MapW (w : World) (b : Nat) (T : List En) : Prop :=
  ∃ es clock, w.heap[b]? = some (.map es clock) ∧ Stamped es clock ∧ (∀ e ∈ es.toList, ∃ y, mayE y = true ∧ e.key = stV y ∧ e.val = .int .i64 (cntT T y : Int)) ∧ (∀ y, 0 < cntT T y → ∃ e ∈ es.toList, e.key = stV y)
theorem MapW.made (w : World) : MapW (w.alloc (.map #[] 0)) w.heap.size [] :=
  ⟨#[], 0, blk_new w _, stamped_empty 0, (fun e h => by simp at h), (fun y h => by simp [cntT] at h)⟩
theorem MapW.lt {w : World} {b : Nat} {T : List En} (h : MapW w b T) : b < w.heap.size := by
  obtain ⟨es, clock, hb, _⟩ := h
  exact blk_lt hb
theorem MapW.kept {w w' : World} {b : Nat} {T : List En} {r : Option Nat} (h : MapW w b T) (hg : w.grownBy w' r) (hne : some b ≠ r) : MapW w' b T := by
  obtain ⟨es, clock, hb, h1, h2, h3⟩ := h
  exact ⟨es, clock, blk_grown hb hg hne, h1, h2, h3⟩
theorem MapW.up {w w' : World} {b : Nat} {T : List En} (h : MapW w b T) (hb : Below w.heap.size w w') : MapW w' b T := h.kept (grown_up hb none) (by simp)
theorem keys_st {es : Array MapEntry} {T : List En} (h : ∀ e ∈ es.toList, ∃ y, mayE y = true ∧ e.key = stV y ∧ e.val = .int .i64 (cntT T y : Int)) : ∀ e ∈ es.toList, ∃ l, keyOf Tryz.prog 162 e.key = some l := by
  intro e he
  obtain ⟨y, h1, h2, _⟩ := h e he
  rw [h2]
  exact key_st y h1
theorem zero3 (w : World) : (zeroValue 3).run Tryz.prog w = .ok (.int .i64 0) w := by kernel_rfl
theorem MapW.look {w : World} {b : Nat} {T : List En} (h : MapW w b T) {x : En} (hx : mayE x = true) : (Instr.lookup 160 (.map (some b)) (stV x) false).run Tryz.prog w = .ok (.int .i64 (cntT T x : Int)) w := by
  obtain ⟨es, clock, hb, h1, h2, h3⟩ := h
  obtain ⟨l, hl⟩ := key_st x hx
  have hk := keys_st h2
  rcases lawSt.find w hl es.toList hk with ⟨f1, f2⟩ | ⟨j, e0, f1, f2, f3⟩
  · have h0 : cntT T x = 0 := by
      rcases Nat.eq_zero_or_pos (cntT T x) with q | q
      · exact q
      · obtain ⟨e, he, ek⟩ := h3 x q
        exact absurd ek (f2 e he)
    simp [Instr.lookup, run_underlying Tryz.underlying160, MapKept.run_getObj_map hb, lawSt.check w _ hl, f1, zero3, Result.andThen, h0]
  · obtain ⟨y, hy, ey, ev⟩ := h2 e0 (List.mem_of_getElem? f2)
    have ht : twin y x = true := stV_iff.1 (by rw [← ey, f3])
    rw [cntT_twin ht] at ev
    simp [Instr.lookup, run_underlying Tryz.underlying160, MapKept.run_getObj_map hb, lawSt.check w _ hl, f1, Result.andThen, ev]
def EntAt (w : World) (b st : Nat) (x : En) : Prop := ∃ es clock, w.heap[b]? = some (.map es clock) ∧ ∃ e ∈ es.toList, e.born = st ∧ e.key = stV x
theorem EntAt.up {w w' : World} {b st : Nat} {x : En} (h : EntAt w b st x) (hb : Below w.heap.size w w') : EntAt w' b st x := by
  obtain ⟨es, clock, h1, h2⟩ := h
  exact ⟨es, clock, blk_up h1 hb, h2⟩
theorem grown_block (w : World) (b : Nat) (o : Obj) : w.grownBy (setBlock w b o) (some b) := by
  refine ⟨rfl, rfl, rfl, by simp [setBlock], fun k hk hne => ?_⟩
  have : b ≠ k := fun e => hne (by rw [e])
  simp [setBlock, Array.getElem?_setIfInBounds_ne this]
theorem MapW.entry {w : World} {b : Nat} {T : List En} (h : MapW w b T) {x : En} (hx : mayE x = true) :
    ∃ (v0 : Value) (st : Nat) (w1 : World), (Instr.mapEntry 160 (.map (some b)) (stV x)).run Tryz.prog w = .ok (.tuple #[v0, goInt st]) w1 ∧ MapW w1 b T ∧ EntAt w1 b st x ∧ w.grownBy w1 (some b) ∧ w1.heap.size = w.heap.size := by
  obtain ⟨es, clock, hb, h1, h2, h3⟩ := h
  obtain ⟨l, hl⟩ := key_st x hx
  have hk := keys_st h2
  rcases lawSt.find w hl es.toList hk with ⟨f1, f2⟩ | ⟨j, e0, f1, f2, f3⟩
  · have h0 : cntT T x = 0 := by
      rcases Nat.eq_zero_or_pos (cntT T x) with q | q
      · exact q
      · obtain ⟨e, he, ek⟩ := h3 x q
        exact absurd ek (f2 e he)
    refine ⟨.int .i64 0, clock, setBlock w b (.map (es.push ⟨stV x, .int .i64 0, clock⟩) (clock + 1)), ?_, ?_, ?_, grown_block _ _ _, by simp [setBlock]⟩
    · simp [Instr.mapEntry, run_underlying Tryz.underlying160, MapKept.run_getObj_map hb, lawSt.check w false hl, f1, zero3, MapKept.run_setObj_map _ hb, Result.andThen, setBlock]
    · refine ⟨_, _, heap_setBlock_same hb _, stamped_push h1 f2, fun e he => ?_, fun y hy => ?_⟩
      · simp only [Array.toList_push, List.mem_append, List.mem_singleton] at he
        rcases he with he | rfl
        · exact h2 e he
        · exact ⟨x, hx, rfl, by rw [h0]; rfl⟩
      · obtain ⟨e, he, ek⟩ := h3 y hy
        exact ⟨e, by simp only [Array.toList_push, List.mem_append]; exact .inl he, ek⟩
    · exact ⟨_, _, heap_setBlock_same hb _, ⟨stV x, .int .i64 0, clock⟩, by simp, rfl, rfl⟩
  · have hj : es[j]? = some e0 := by simpa using f2
    have hsame : es.modify j (fun e => { e with key := stV x }) = es := by
      apply Array.ext'
      rw [Array.toList_modify, ChangeMaps.modify_eq_set _ _ _ _ f2]
      have : ({ e0 with key := stV x } : MapEntry) = e0 := by rw [← f3]
      rw [this]
      exact set_self _ _ _ f2
    refine ⟨e0.val, e0.born, setBlock w b (.map es clock), ?_, ?_, ?_, grown_block _ _ _, by simp [setBlock]⟩
    · simp [Instr.mapEntry, run_underlying Tryz.underlying160, MapKept.run_getObj_map hb, lawSt.check w false hl, f1, hj, f3, lawSt.stays w hl, hsame, MapKept.run_setObj_map _ hb, Result.andThen, setBlock]
    · exact ⟨_, _, heap_setBlock_same hb _, h1, h2, h3⟩
    · exact ⟨_, _, heap_setBlock_same hb _, e0, List.mem_of_getElem? f2, rfl, f3⟩
theorem MapW.stored {w : World} {b : Nat} {T : List En} (h : MapW w b T) {x : En} {st : Nat} (he : EntAt w b st x) :
    ∃ w1 : World, (Instr.entryStore 160 (.map (some b)) (goInt st) (.int .i64 ((cntT T x : Int) + 1))).run Tryz.prog w = .ok () w1 ∧ MapW w1 b (T ++ [x]) ∧ w.grownBy w1 (some b) ∧ w1.heap.size = w.heap.size := by
  obtain ⟨es, clock, hb, h1, h2, h3⟩ := h
  obtain ⟨es', clock', hb', e0, hm0, hst, hk0⟩ := he
  rw [hb] at hb'
  simp only [Option.some.injEq, Obj.map.injEq] at hb'
  obtain ⟨rfl, rfl⟩ := hb'
  obtain ⟨s1, s2, s3⟩ := (stamped_iff es clock).1 h1
  obtain ⟨j, hj⟩ := List.getElem?_of_mem hm0
  have hidx : es.findIdx? (fun e => ((e.born : Nat) : Int) == ((e0.born : Nat) : Int)) = some j := by
    rw [findIdx_arr]
    exact findIdx_born s2 hj
  subst hst
  refine ⟨setBlock w b (.map (es.modify j (fun e => { e with val := .int .i64 ((cntT T x : Int) + 1) })) clock), ?_, ?_, grown_block _ _ _, by simp [setBlock]⟩
  · simp [Instr.entryStore, MapKept.run_getObj_map hb, asInt, asIntOf, goInt, hidx, MapKept.run_setObj_map _ hb, Result.andThen, setBlock]
  · have hlist : (es.modify j (fun e => { e with val := .int .i64 ((cntT T x : Int) + 1) })).toList = es.toList.set j { e0 with val := .int .i64 ((cntT T x : Int) + 1) } := by
      rw [Array.toList_modify, ChangeMaps.modify_eq_set _ _ _ _ hj]
    have hother : ∀ e ∈ es.toList, e.key = stV x → e = e0 := by
      intro e he hk
      obtain ⟨i, hi⟩ := List.getElem?_of_mem he
      rcases Nat.lt_trichotomy i j with q | q | q
      · exact absurd (hk.trans hk0.symm) (List.pairwise_iff_getElem.1 s3 i j (List.getElem?_eq_some_iff.1 hi).1 (List.getElem?_eq_some_iff.1 hj).1 q |> fun m => by
          rw [(List.getElem?_eq_some_iff.1 hi).2, (List.getElem?_eq_some_iff.1 hj).2] at m
          exact m)
      · subst q
        rw [hi] at hj
        exact Option.some.inj hj
      · exact absurd (hk.trans hk0.symm).symm (List.pairwise_iff_getElem.1 s3 j i (List.getElem?_eq_some_iff.1 hj).1 (List.getElem?_eq_some_iff.1 hi).1 q |> fun m => by
          rw [(List.getElem?_eq_some_iff.1 hi).2, (List.getElem?_eq_some_iff.1 hj).2] at m
          exact m)
    refine ⟨_, _, heap_setBlock_same hb _, stamped_modify h1 _ _ (fun _ _ => rfl) (fun _ _ _ => rfl), fun e he => ?_, fun y hy => ?_⟩
    · rw [hlist] at he
      rcases List.getElem?_of_mem he with ⟨i, hi⟩
      rw [List.getElem?_set] at hi
      by_cases q : j = i
      · subst q
        have hjl := (List.getElem?_eq_some_iff.1 hj).1
        simp only [if_true, hjl, if_true] at hi
        obtain ⟨y, hy, ey, ev⟩ := h2 e0 hm0
        have ht : twin y x = true := stV_iff.1 (by rw [← ey, hk0])
        cases hi
        refine ⟨y, hy, ey, ?_⟩
        rw [cntT_snoc, ht, cntT_twin ht]
        simp
      · rw [if_neg q] at hi
        have hm := List.mem_of_getElem? hi
        obtain ⟨y, hy, ey, ev⟩ := h2 e hm
        refine ⟨y, hy, ey, ?_⟩
        have ht : twin y x = false := by
          cases t : twin y x with
          | false => rfl
          | true =>
            have ee := hother e hm (by rw [ey]; exact stV_iff.2 t)
            subst ee
            have l1 := (List.getElem?_eq_some_iff.1 hi).1
            have l2 := (List.getElem?_eq_some_iff.1 hj).1
            have n1 := List.getElem?_eq_some_iff.1 hi
            have n2 := List.getElem?_eq_some_iff.1 hj
            exfalso
            rcases Nat.lt_or_gt_of_ne q with q | q
            · have m := List.pairwise_iff_getElem.1 s3 j i l2 l1 q
              rw [n1.2, n2.2] at m
              exact m rfl
            · have m := List.pairwise_iff_getElem.1 s3 i j l1 l2 q
              rw [n1.2, n2.2] at m
              exact m rfl
        rw [cntT_snoc, ht]
        simpa using ev
    · rw [cntT_snoc] at hy
      rw [hlist]
      by_cases t : twin y x = true
      · refine ⟨{ e0 with val := .int .i64 ((cntT T x : Int) + 1) }, ?_, ?_⟩
        · exact List.mem_iff_getElem?.2 ⟨j, by rw [List.getElem?_set, if_pos rfl, if_pos (List.getElem?_eq_some_iff.1 hj).1]⟩
        · exact hk0.trans (stV_iff.2 t).symm
      · rw [if_neg t] at hy
        obtain ⟨e, he, ek⟩ := h3 y hy
        have hne : e ≠ e0 := fun q => t (stV_iff.1 (by rw [← ek, q, hk0]))
        obtain ⟨i, hi⟩ := List.getElem?_of_mem he
        have hij : j ≠ i := fun q => hne (by subst q; rw [hi] at hj; exact Option.some.inj hj)
        exact ⟨e, List.mem_iff_getElem?.2 ⟨i, by rw [List.getElem?_set, if_neg hij]; exact hi⟩, ek⟩
end Go.Proofs.YthiegmhplnbdlaaGreat
