/- The function that hands out the versions of each key. -/
import Derived.RangeFuncNested
import Derived.RangeFuncBound
import Derived.RangeFuncCalls
import Derived.RangeFuncLeaves
import Derived.Shelf.Abstract
import Derived.Shelf.RegionOpen
import Derived.OwnWalkIn
import Derived.TacticsInMore
import Derived.LoopNIn
import Derived.LoopIn
import Derived.Sort.QuietIn
import Derived.Test.YtfnddbglopoghaaQChk
namespace Go.Proofs.Ytfnddbglopoghaa
open Go.RowKit Go.Shelf
set_option linter.unusedVariables false
set_option linter.unusedSimpArgs false
set_option maxRecDepth 20000
attribute [local go_sem] Oper.semAt_some

theorem take_stop {p : En → Bool} : ∀ (a b : List En), (∀ y ∈ a, p y = true) → (∀ y r, b = y :: r → p y = false) → (a ++ b).takeWhile p = a ∧ (a ++ b).dropWhile p = b
  | [], [], _, _ => ⟨rfl, rfl⟩
  | [], y :: b, _, h => by
    have := h y b rfl
    constructor
    · simp [List.takeWhile_cons, this]
    · simp [List.dropWhile_cons, this]
  | x :: a, b, h1, h2 => by
    have hx := h1 x List.mem_cons_self
    have ih := take_stop a b (fun y hy => h1 y (List.mem_cons_of_mem _ hy)) h2
    constructor
    · simp [List.takeWhile_cons, hx, ih.1]
    · simp [List.dropWhile_cons, hx, ih.2]
/-- The group at the beginning. -/
theorem groups_cut (r : List En) (k : Nat) (hk : 0 < k) (hl : k ≤ r.length) (hs : ∀ m x y, m + 1 < k → r[m]? = some x → r[m + 1]? = some y → KL y = KL x) (he : ∀ x y, r[k - 1]? = some x → r[k]? = some y → KL y ≠ KL x) : groupsM r = r.take k :: groupsM (r.drop k) := by
  cases r with
  | nil => simp at hl; omega
  | cons x r =>
    have hall : ∀ m y, m < k → (x :: r)[m]? = some y → KL y = KL x := by
      intro m
      induction m with
      | zero => intro y _ h; simp at h; rw [h]
      | succ m ih =>
        intro y hm hy
        have hlt := (List.getElem?_eq_some_iff.1 hy).1
        have hx : (x :: r)[m]? = some (x :: r)[m] := List.getElem?_eq_getElem (by omega)
        exact (hs m _ y hm hx hy).trans (ih _ (by omega) hx)
    obtain ⟨j, rfl⟩ : ∃ j, k = j + 1 := ⟨k - 1, by omega⟩
    simp only [List.length_cons] at hl
    have h1 : ∀ y ∈ r.take j, sameK x y = true := by
      intro y hy
      obtain ⟨m, hm⟩ := List.getElem?_of_mem hy
      have hml := (List.getElem?_eq_some_iff.1 hm).1
      rw [List.length_take] at hml
      rw [List.getElem?_take_of_lt (by omega)] at hm
      exact sameK_iff.2 (hall (m + 1) y (by omega) (by simpa using hm))
    have h2 : ∀ y q, r.drop j = y :: q → sameK x y = false := by
      intro y q hq
      have hy : r[j]? = some y := by
        have := congrArg (fun l => l[0]?) hq
        simpa [List.getElem?_drop] using this
      have hx : (x :: r)[j]? = some (x :: r)[j] := List.getElem?_eq_getElem (by simp; omega)
      have := he _ y hx (by simpa using hy)
      rw [hall j _ (by omega) hx] at this
      cases t : sameK x y with
      | false => rfl
      | true => exact absurd (sameK_iff.1 t) this
    have h3 := take_stop (r.take j) (r.drop j) h1 h2
    rw [List.take_append_drop] at h3
    conv => lhs; unfold groupsM
    rw [h3.1, h3.2, List.take_succ_cons, List.drop_succ_cons]
theorem groups_nil : groupsM [] = [] := by unfold groupsM; rfl

theorem byKey_any (a : Option Addr) (n c : Nat) (w : World) : Calls Try.prog 22 #[.slice a n c] w fun e w' => e = .returned (.func (.func 38) #[] #[.pointer (some ⟨w.heap.size, 0, none⟩)]) ∧ w' = w.alloc (.cells #[.slice a n c] 22) := by
  go_enter Try.func22, Try.ntmps22
  go_wp2
  go_ret
  exact ⟨rfl, rfl⟩

/-- The versions of the key that begins at p. -/
def partG (b off c p k : Nat) : Value := .slice (some ⟨b, off + p * 4, none⟩) k (c - p)
theorem key_step {l : List En} {gs : List (List En)} {p i : Nat} (hp : p ≤ i) (hi : i < l.length) (hg : groupsM l = gs ++ groupsM (l.drop p)) (hf : gs.flatten.length = p) (hs : ∀ m x y, p ≤ m → m + 1 ≤ i → l[m]? = some x → l[m + 1]? = some y → KL y = KL x)
    (he : ∀ x y, l[i]? = some x → l[i + 1]? = some y → KL y ≠ KL x) :
    groupsM l = (gs ++ [(l.drop p).take (i + 1 - p)]) ++ groupsM (l.drop (i + 1)) ∧ (gs ++ [(l.drop p).take (i + 1 - p)]).flatten.length = i + 1 := by
  constructor
  · have := groups_cut (l.drop p) (i + 1 - p) (by omega) (by rw [List.length_drop]; omega) (fun m x y hm hx hy => hs (p + m) x y (by omega) (by omega) (by simpa [List.getElem?_drop] using hx) (by simpa [List.getElem?_drop, Nat.add_assoc] using hy)) (fun x y hx hy => he x y (by
        rw [List.getElem?_drop] at hx
        rw [show p + (i + 1 - p - 1) = i by omega] at hx
        exact hx) (by
        rw [List.getElem?_drop] at hy
        rw [show p + (i + 1 - p) = i + 1 by omega] at hy
        exact hy))
    rw [hg, this, List.drop_drop, show p + (i + 1 - p) = i + 1 by omega]
    simp
  · rw [List.flatten_append, List.length_append, hf]
    simp [List.length_take, List.length_drop]
    omega
set_option maxHeartbeats 4000000 in
theorem key_in (m lp Bf : Nat) (l : List En) (a : Option Addr) (b off c : Nat) (ha : l ≠ [] → a = some ⟨b, off, none⟩) (hnc : l.length ≤ c) (hmx : l.length ≤ 4611686018427387904) (J : Nat → World → Prop) (W : World)
    (hY : ∀ (j p : Nat) (g : List En) (W0 : World), (groupsM l)[j]? = some g → p = ((groupsM l).take j).flatten.length → J j W0 → YieldAt Fence.wide (m - 1) Try.prog lp #[partG b off c p g.length] W0 fun e W' => e = .returned (.bool true) ∧ J (j + 1) W')
    (hK : ∀ i W', J i W' → W'.cell? ⟨Bf, 0, none⟩ = some (.slice a l.length c) ∧ EntsR W' (.slice a l.length c) l)
    (hA : ∀ i W' o, J i W' → J i (W'.alloc o))
    (hD : ∀ i W' d, J i W' → J i (W'.drewN d))
    (hJ : J 0 W) :
    CallsIn Fence.wide m Try.prog 38 #[.func (.yield lp) #[] #[], .pointer (some ⟨Bf, 0, none⟩)] W fun e W' => (∃ v, e = .returned v) ∧ J (groupsM l).length W' := by
  refine callsIn_of_wp Try.func38 rfl trivial ?_ rfl
  simp only [Try.ntmps38, List.size_toArray, List.length_cons, List.length_nil, Nat.reduceAdd, Nat.reduceSub, Array.replicate_succ, Array.replicate_zero, List.push_toArray, List.append_toArray, List.nil_append, List.cons_append]
  have k0 := (hK 0 W hJ).1
  have HYH := hid hY
  have HKH := hid hK
  have HAH := hid hA
  have HDH := hid hD
  have HJH := hid hJ
  clear hY hK hA hD hJ
  gi_wp2
  gi_loopw [3, 8] (fun sp si wr => ∃ (j p i : Nat) (gs : List (List En)), sp = .int .i64 (p : Int) ∧ si = .int .i64 (i : Int) ∧ p ≤ i ∧ i ≤ l.length ∧ Hid (groupsM l = gs ++ groupsM (l.drop p)) ∧ Hid (gs.flatten.length = p) ∧ Hid (gs.length = j) ∧ Hid (∀ m x y, p ≤ m → m + 1 ≤ i → l[m]? = some x → l[m + 1]? = some y → KL y = KL x) ∧ Hid (i = l.length → p = i) ∧ Hid (J j wr)) (fun _ si wr => l.length - (intOf si).toNat)
  case atStart => exact ⟨0, 0, 0, [], rfl, rfl, Nat.le_refl _, Nat.zero_le _, by unfold Hid; simp, rfl, rfl, (fun m x y h1 h2 => by omega), (fun _ => rfl), HJH.out⟩
  case round =>
    obtain ⟨j, p, i, gs, rfl, rfl, hpi, hil, HG, HF, HL, HS, HE, HJ⟩ := hrel
    clear k0
    obtain ⟨k0, kE⟩ := HKH.out j wr HJ.out
    by_cases hlt : i < l.length
    · have hlt' : (i : Int) < (l.length : Int) := by omega
      obtain rfl := ha (fun q => by rw [q] at hlt; simp at hlt)
      clear ha
      obtain ⟨b1, off1, cap1, x, e, hx, z0, z1, z2, z3⟩ := kE.at i hlt
      simp only [Value.slice.injEq, Option.some.injEq, Addr.mk.injEq] at e
      obtain ⟨⟨rfl, rfl, _⟩, _, rfl⟩ := e
      have HX : Hid (l[i]? = some x) := hx
      obtain ⟨wa, hwa⟩ : ∃ wa, wa = wr.alloc (enObj x) := ⟨_, rfl⟩
      have HWA : Hid (wr.alloc (.cells #[.string x.key, .int .i64 x.seq, .int .i64 x.kind, .string x.val] 47) = wa) := hwa.symm
      have HJA : Hid (J j wa) := by rw [hwa]; exact HAH.out j wr _ HJ.out
      have x0 : wa.cell? ⟨wr.heap.size, 0, none⟩ = some (.string x.key) := by rw [hwa]; exact blk_cell (blk_new wr (enObj x)) 0 _ rfl
      have hw1 : IntKind.i64.wrap ((i : Int) + 1) = (i : Int) + 1 := by rw [IntKind.wrap_i64]; omega
      obtain ⟨kc, kF⟩ := HKH.out j wa HJA.out
      clear hx kE hwa HJ
      gi_wp2_with fail
      rw [HWA.out]
      generalize wr.heap.size = NX at *
      have hgo : ∀ W' : World, (∀ x y, l[i]? = some x → l[i + 1]? = some y → KL y ≠ KL x) → J j W' → YieldAt Fence.wide (m - 1) Try.prog lp #[partG b off c p (i + 1 - p)] W' fun e W2 => e = .returned (.bool true) ∧ J (j + 1) W2 := by
        intro W' hne hj
        obtain ⟨h1, h2⟩ := key_step hpi hlt HG.out HF.out HS.out hne
        have hl : ((l.drop p).take (i + 1 - p)).length = i + 1 - p := by rw [List.length_take, List.length_drop]; omega
        have hgj : (groupsM l)[j]? = some ((l.drop p).take (i + 1 - p)) := by
          rw [h1, ← HL.out, List.append_assoc, List.getElem?_append_right (Nat.le_refl _)]
          simp
        have := HYH.out j p _ W' hgj (by rw [h1, ← HL.out, List.append_assoc, List.take_left]; exact HF.out.symm) hj
        rw [hl] at this
        exact this
      have hgo := hid hgo
      have HRD : Hid (∀ d, J j (wa.drewN d)) := fun d => HDH.out j wa d HJA.out
      by_cases hn : i + 1 < l.length
      · have hn' : (i : Int) + 1 < (l.length : Int) := by omega
        obtain ⟨b2, off2, cap2, y, e, hy, y0, y1, y2, y3⟩ := kF.at (i + 1) hn
        simp only [Value.slice.injEq, Option.some.injEq, Addr.mk.injEq] at e
        obtain ⟨⟨rfl, rfl, _⟩, _, rfl⟩ := e
        have HY2 : Hid (l[i + 1]? = some y) := hy
        have y0' : wa.cell? ⟨b, off + (i + 1) * 4, none⟩ = some (.string y.key) := y0
        clear hy y1 y2 y3 kF z0 z1 z2 z3
        by_cases hsk : y.key.toList = x.key.toList
        · have hs2 : (y.key.toList == x.key.toList) = true := by simp [hsk]
          have HSN : Hid (∀ m x y, p ≤ m → m + 1 ≤ i + 1 → l[m]? = some x → l[m + 1]? = some y → KL y = KL x) := by
            intro m a d h1 h2 ha hd
            by_cases q : m = i
            · subst q
              rw [HX.out] at ha
              rw [HY2.out] at hd
              cases ha
              cases hd
              exact hsk
            · exact HS.out m a d h1 (by omega) ha hd
          gi_quiet (fail)
          gi_wp2_with fail
          exact ⟨⟨j, p, i + 1, gs, rfl, by simp, by omega, by omega, HG, HF, HL, HSN, (fun h => by omega), HRD.out _⟩, by simp [intOf]; omega⟩
        · have hs2 : (y.key.toList == x.key.toList) = false := by simp [hsk]
          have HNE : Hid (∀ x y, l[i]? = some x → l[i + 1]? = some y → KL y ≠ KL x) := by
            intro a d ha hd
            rw [HX.out] at ha
            rw [HY2.out] at hd
            cases ha
            cases hd
            exact hsk
          gi_quiet (fail)
          obtain ⟨wq, hwq⟩ : ∃ wq, wq = wa.drewN nq := ⟨_, rfl⟩
          have HJQ : Hid (J j wq) := by rw [hwq]; exact HRD.out nq
          rw [← hwq]
          have kq := (HKH.out j wq HJQ.out).1
          have hcp : ¬ c = p := by omega
          have r1 : p ≤ i + 1 := by omega
          have r2 : i + 1 ≤ c := by omega
          have r3 : (p : Int) ≤ (i : Int) + 1 := by omega
          have Y := hgo.out wq HNE.out HJQ.out
          have HST : Hid (groupsM l = (gs ++ [(l.drop p).take (i + 1 - p)]) ++ groupsM (l.drop (i + 1)) ∧ (gs ++ [(l.drop p).take (i + 1 - p)]).flatten.length = i + 1) := key_step hpi hlt HG.out HF.out HS.out HNE.out
          unfold partG at Y
          clear hwq hgo
          obtain ⟨fn, tmps, asg, bod, hy, hR⟩ := Y
          have HR := hid hR
          clear hR
          gi_wp2_with fail
          refine ⟨fun h => (by cases h), HR.out.mono ?_⟩
          rintro e W3 ⟨rfl, hJ3⟩
          have HJ3 : Hid (J (j + 1) W3) := hJ3
          clear hJ3
          gi_wp2_with fail
          exact ⟨⟨j + 1, i + 1, i + 1, _, by simp, by simp, by omega, by omega, HST.out.1, HST.out.2, by unfold Hid; rw [List.length_append, HL.out]; rfl, (fun m x y h1 h2 => by omega), (fun _ => rfl), HJ3⟩, by simp [intOf]; omega⟩
      · have hn' : ¬ (i : Int) + 1 < (l.length : Int) := by omega
        have HNE : Hid (∀ x y, l[i]? = some x → l[i + 1]? = some y → KL y ≠ KL x) := by
          intro a d ha hd
          have := (List.getElem?_eq_some_iff.1 hd).1
          omega
        clear kF z0 z1 z2 z3
        gi_quiet (fail)
        obtain ⟨wq, hwq⟩ : ∃ wq, wq = wa.drewN nq := ⟨_, rfl⟩
        have HJQ : Hid (J j wq) := by rw [hwq]; exact HRD.out nq
        rw [← hwq]
        have kq := (HKH.out j wq HJQ.out).1
        have hcp : ¬ c = p := by omega
        have r1 : p ≤ i + 1 := by omega
        have r2 : i + 1 ≤ c := by omega
        have r3 : (p : Int) ≤ (i : Int) + 1 := by omega
        have Y := hgo.out wq HNE.out HJQ.out
        have HST : Hid (groupsM l = (gs ++ [(l.drop p).take (i + 1 - p)]) ++ groupsM (l.drop (i + 1)) ∧ (gs ++ [(l.drop p).take (i + 1 - p)]).flatten.length = i + 1) := key_step hpi hlt HG.out HF.out HS.out HNE.out
        unfold partG at Y
        clear hwq hgo
        obtain ⟨fn, tmps, asg, bod, hy, hR⟩ := Y
        have HR := hid hR
        clear hR
        gi_wp2_with fail
        refine ⟨fun h => (by cases h), HR.out.mono ?_⟩
        rintro e W3 ⟨rfl, hJ3⟩
        have HJ3 : Hid (J (j + 1) W3) := hJ3
        clear hJ3
        gi_wp2_with fail
        exact ⟨⟨j + 1, i + 1, i + 1, _, by simp, by simp, by omega, by omega, HST.out.1, HST.out.2, by unfold Hid; rw [List.length_append, HL.out]; rfl, (fun m x y h1 h2 => by omega), (fun _ => rfl), HJ3⟩, by simp [intOf]; omega⟩
    · clear ha
      have hlt' : ¬ (i : Int) < (l.length : Int) := by omega
      obtain rfl : i = l.length := by omega
      have hend := HE.out rfl
      have HJE : Hid (J (groupsM l).length wr) := by
        have h1 := HG.out
        rw [hend, List.drop_length, groups_nil, List.append_nil] at h1
        unfold Hid
        rw [h1, HL.out]
        exact HJ.out
      clear hend HE
      gi_wp2
      go_end0
      exact ⟨⟨_, rfl⟩, HJE.out⟩
end Go.Proofs.Ytfnddbglopoghaa
