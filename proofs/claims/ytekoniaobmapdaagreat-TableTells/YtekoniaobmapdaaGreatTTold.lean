/- The walk of the document's told of layer 10. -/
import Derived.Test.YtekoniaobmapdaaGreatG30
import Derived.Test.YtekoniaobmapdaaGreatYNum
namespace Go.Proofs.YtekoniaobmapdaaGreat
open Go.RowKit SumPlain
set_option linter.unusedVariables false
set_option linter.unusedSimpArgs false

/-- Octets between two places, the address a letter. -/
theorem octs_part {W : World} {a : Option Addr} {c : Nat} {l : List Int} (h : Octs W (.slice a l.length c) l) (p q : Nat) (hpq : p ≤ q) (hq : q ≤ l.length) : Octs W (.slice (if c = p then a else a.map (fun x => x.add p)) (q - p) (c - p)) ((l.drop p).take (q - p)) := by
  have h1 := octs_from h p (by omega)
  generalize (if c = p then a else a.map (fun x => x.add p)) = A at *
  rcases h1.2 with ⟨e, a', cap, e2, e3⟩ | ⟨hne, b, off, cap, e2, hcap, hm, hc⟩
  · simp only [Value.slice.injEq] at e2
    have hl : (l.drop p).length = 0 := by rw [e]; rfl
    rw [List.length_drop] at hl
    rw [e, show q - p = 0 by omega]
    refine ⟨by simp, .inl ⟨by simp, A, c - p, rfl, fun hA => ?_⟩⟩
    rw [e2.2.2]
    exact e3 (by rw [← e2.1]; exact hA)
  · simp only [Value.slice.injEq] at e2
    obtain ⟨rfl, hn, rfl⟩ := e2
    exact h1.cut (by rw [List.length_drop]) (q - p) (by rw [List.length_drop]; omega)

/-- What the document's Get says of octets. -/
def GeR (x : List Int) (v j : Nat) (e : Int) : Prop := getOf x = ((v : Int), (j : Int), e) ∧ v ≤ 18446744073709551615 ∧ (e ≠ 0 ∨ (e = 0 ∧ 1 ≤ j ∧ j ≤ x.length))
theorem ger_any (x : List Int) (hx : ∀ y ∈ x, 0 ≤ y ∧ y ≤ 255) : ∃ (v j : Nat) (e : Int), GeR x v j e ∧ ∀ (vs : Value) (W : World), Octs W vs x → Calls Tryz.prog 61 #[vs] W fun z w' => z = .returned (.tuple #[.int .u64 v, .int .i64 j, .int .i64 e]) ∧ ∃ d, w' = W.drewN d := by
  rcases get_says x hx with q | q | ⟨n, j, q, n0, n1, j1, j2, _, _⟩
  · refine ⟨0, 0, 8, ⟨getRet_inj q, by omega, .inl (by decide)⟩, fun vs W h => ?_⟩
    have r := refGet_any x vs W h
    rw [q] at r
    exact r
  · refine ⟨0, 0, 4, ⟨getRet_inj q, by omega, .inl (by decide)⟩, fun vs W h => ?_⟩
    have r := refGet_any x vs W h
    rw [q] at r
    exact r
  · obtain ⟨v, rfl⟩ := Int.eq_ofNat_of_zero_le n0
    refine ⟨v, j, 0, ⟨getRet_inj q, by omega, .inr ⟨rfl, j1, j2⟩⟩, fun vs W h => ?_⟩
    have r := refGet_any x vs W h
    rw [q] at r
    exact r

theorem fget_len (l : List Int) : (fget l).2.1.length ≤ l.length := by
  unfold fget
  split
  · simp
  · split
    · simp
    · split
      · simp
      · split
        · simp
        · have := bare_le (l.take ((getOf l).2.1 + 1 + (getOf l).1 + 4).toNat)
          simp at this ⊢
          omega
theorem decB_len (b : List Int) : (decB b).1.length ≤ 64 := by
  by_cases h : (decB b).2 = 0
  · have e := enc_decB h
    unfold encB at e
    by_cases hc : chkB (decB b).1 = 0
    · exact (chkB_may hc).2.1
    · rw [if_neg hc] at e
      simp only [Prod.mk.injEq] at e
      exact absurd e.2 hc
  · rw [decB_bad h]; simp
structure ToI (w wr : World) (b : List Int) (Y : List En) (at' f k pos : Nat) (out : List En) (vl vx : Value) (nx : Nat) (x : List Int) : Prop where
  len : out.length = k
  hnx : nx = x.length
  eq : Y = toldT f b at' x pos out
  fu : x.length < f
  own : OwnR wr w.heap.size 43 4 vl (out.map enRow)
  ox : Octs w vx x
  up : Below w.heap.size w wr
  pa : pos ≤ at'
  xl : x.length ≤ 140737488351232
theorem toldT_end {f : Nat} {b : List Int} {at' : Nat} {x : List Int} {pos : Nat} {out : List En} (hf : x.length < f) (h : x = [] ∨ 4096 < out.length) : toldT f b at' x pos out = out := by
  obtain ⟨g, rfl⟩ : ∃ g, f = g + 1 := ⟨f - 1, by omega⟩
  rw [toldT, if_pos h]
theorem toldT_bad1 {f : Nat} {b : List Int} {at' : Nat} {x : List Int} {pos : Nat} {out : List En} (hf : x.length < f) (h0 : ¬ (x = [] ∨ 4096 < out.length)) (h : (getOf x).2.2 ≠ 0 ∨ ((at' - pos : Nat) : Int) < (getOf x).1) : toldT f b at' x pos out = [] := by
  obtain ⟨g, rfl⟩ : ∃ g, f = g + 1 := ⟨f - 1, by omega⟩
  rw [toldT, if_neg h0, if_pos h]
/-- One round, once the numbers are told. -/
theorem toldT_step {g : Nat} {b : List Int} {at' : Nat} {x : List Int} {pos : Nat} {out : List En} {v1 j1 v2 j2 : Nat} {e2 : Int} (h0 : ¬ (x = [] ∨ 4096 < out.length)) (g1 : getOf x = ((v1 : Int), (j1 : Int), 0)) (hv : ¬ ((at' - pos : Nat) : Int) < (v1 : Int)) (g2 : getOf (x.drop j1) = ((v2 : Int), (j2 : Int), e2)) :
    toldT (g + 1) b at' x pos out = if e2 ≠ 0 ∨ ((x.drop j1).length : Int) - (j2 : Int) < (v2 : Int) then [] else
      if (decB ((b.drop pos).take v1)).2 ≠ 0 then [] else toldT g b at' (x.drop (j1 + (j2 + v2))) (pos + v1) (out ++ (decB ((b.drop pos).take v1)).1) := by
  rw [toldT, if_neg h0, g1]
  simp only [Int.toNat_natCast]
  rw [if_neg (by
    rintro (q | q)
    · exact q rfl
    · exact hv q), g2]
  simp only [Int.toNat_natCast]

set_option maxHeartbeats 4000000 in
set_option maxRecDepth 100000 in
theorem refToldT_loop (b : List Int) (a : Option Addr) (n c at' to' : Nat) (w : World) (hn : n = b.length) (hv : Octs w (.slice a n c) b) (hl : n ≤ 140737488351232) (hat : at' ≤ to') (hto : to' ≤ n) :
    Calls Tryz.prog 32 #[.slice a n c, .int .i64 at', .int .i64 to'] w fun e w' => ∃ a' n' c', e = .returned (.slice a' n' c') ∧ Hid (n' = (toldX b at' to').length) ∧ Hid (OwnR w' w.heap.size 43 4 (.slice a' n' c') ((toldX b at' to').map enRow)) ∧ Hid (Below w.heap.size w w') := by
  have HV : Hid (Octs w (.slice a n c) b) := hv
  have HN : Hid (n = b.length) := hn
  have hat' : ¬ (to' : Int) < (at' : Int) := by omega
  have hto2 : ¬ (n : Int) < (to' : Int) := by omega
  obtain ⟨A, hA⟩ : ∃ A, (if c = at' then a else a.map (fun x => x.add at')) = A := ⟨_, rfl⟩
  have HFR : Hid (Octs w (.slice A (to' - at') (c - at')) ((b.drop at').take (to' - at'))) := by
    have h := hv
    rw [hn] at h
    rw [← hA]
    exact octs_part h at' to' hat (by omega)
  have hcc : (to' : Int) ≤ (c : Int) := by
    rw [hn] at hv
    rcases hv.form with ⟨_, q, r⟩ | ⟨_, _, q⟩ | ⟨_, _, _, _, q, _⟩
    · have : b.length = 0 := by rw [q]; rfl
      omega
    · have : b.length = 0 := by rw [q]; rfl
      omega
    · omega
  have i1 : (0 : Int) ≤ (at' : Int) := by omega
  have i2 : (at' : Int) ≤ (to' : Int) := by omega
  have HG := rget_any _ _ w HFR.out
  have HTX : Hid (toldX b at' to' = if (fget ((b.drop at').take (to' - at'))).2.2.2 ≠ 0 then [] else toldT (b.length + 1) b at' (fget ((b.drop at').take (to' - at'))).2.1 0 []) := by
    unfold Hid toldX
    rw [if_neg (by omega)]
  have HFL : Hid ((fget ((b.drop at').take (to' - at'))).2.1.length ≤ b.length) := by
    have := fget_len ((b.drop at').take (to' - at'))
    unfold Hid
    simp at this
    omega
  clear hv hn
  generalize toldX b at' to' = Y at *
  go_enter Tryz.func32, Tryz.ntmps32
  go_wp2_with fail
  refine HG.mono ?_
  rintro e w1 ⟨vd, rfl, ND, u1⟩
  obtain ⟨da, dc, rfl, _, _⟩ := ND.1.len
  have HFO : Hid (∀ y ∈ (fget ((b.drop at').take (to' - at'))).2.1, 0 ≤ y ∧ y ≤ 255) := ND.1.1
  generalize fget ((b.drop at').take (to' - at')) = G at *
  obtain ⟨gk, X, gn, ge⟩ := G
  simp only at HTX HFL HFO ND
  obtain ⟨nX, hnX⟩ : ∃ nX, nX = X.length := ⟨_, rfl⟩
  rw [← hnX] at ND
  have HNX : Hid (nX = X.length) := hnX
  simp only [← hnX]
  clear hnX HG hA HFR
  obtain ⟨w2, hw2⟩ : ∃ w2, w2 = w1.alloc (.cells #[.int .i64 gk, .slice da nX dc] 62) := ⟨_, rfl⟩
  have HW2 : Hid (w1.alloc (.cells #[.int .i64 gk, .slice da nX dc] 62) = w2) := hw2.symm
  have B2 : Hid (w2.heap[w1.heap.size]? = some (.cells #[.int .i64 gk, .slice da nX dc] 62)) := by rw [hw2]; exact blk_new _ _
  have U2 : Hid (Below w.heap.size w w2) := by rw [hw2]; exact up_al u1 _
  have OX : Hid (Octs w2 (.slice da nX dc) X) := by rw [hw2]; exact ND.1.up (up_alloc _ _)
  clear hw2 u1 ND
  have q1 := blk_cell B2.out 1 _ rfl
  by_cases hge : ge = 0
  · subst hge
    simp only [ne_eq, not_true, if_false] at HTX
    replace HTX : Hid (Y = toldT (b.length + 1) b at' X 0 []) := HTX
    have I0 : Hid (ToI w2 w2 b (Y) at' (b.length + 1) 0 0 [] (.slice none 0 0) (.slice da nX dc) nX X) := by
      have h1 := HFL.out
      have h2 := HN.out
      exact ⟨rfl, HNX.out, HTX.out, by omega, OwnR.nil _ _ _ _, OX.out, Below.refl _ _, Nat.zero_le _, by omega⟩
    have HVB : Hid (Octs w2 (.slice a n c) b) := HV.out.up U2.out
    have HFIN : Hid (∀ (wz : World) (a' : Option Addr) (n' c' : Nat) (l : List En), Y = l → n' = l.length → OwnR wz w2.heap.size 43 4 (.slice a' n' c') (l.map enRow) → Below w2.heap.size w2 wz → Hid (n' = (Y).length) ∧ Hid (OwnR wz w.heap.size 43 4 (.slice a' n' c') ((Y).map enRow)) ∧ Hid (Below w.heap.size w wz)) := by
      intro wz a' n' c' l e hn' ho hb
      rw [e]
      exact ⟨hn', ho.mono U2.out.size, up_trans U2.out hb⟩
    clear HTX OX HFL HNX HV B2
    go_wp2_with fail
    rw [HW2.out]
    clear HW2 q1 U2
    go_loopw [10, 11, 12] (fun vl vx vp wr => ∃ (f k pos : Nat) (out : List En) (a' : Option Addr) (c' : Nat) (xa : Option Addr) (nx xc : Nat) (x : List Int), vl = .slice a' k c' ∧ vx = .slice xa nx xc ∧ vp = .int .i64 pos ∧ k ≤ 4160 ∧ Hid (ToI w2 wr b Y at' f k pos out (.slice a' k c') (.slice xa nx xc) nx x)) (fun _ vx _ _ => sliceLen vx)
    case atStart => exact ⟨b.length + 1, 0, 0, [], none, 0, da, nX, dc, X, rfl, rfl, rfl, by omega, I0⟩
    case round =>
      clear I0
      obtain ⟨f, k, pos, out, a', c', xa, nx, xc, x, rfl, rfl, rfl, hk, TI⟩ := hrel
      by_cases hnx : nx = 0
      · subst hnx
        have HE : Hid (Y = out) := by
          unfold Hid
          rw [TI.out.eq, toldT_end TI.out.fu (.inl (List.length_eq_zero_iff.1 TI.out.hnx.symm))]
        have HF := hid (HFIN.out wr a' k c' out HE.out TI.out.len.symm TI.out.own TI.out.up)
        go_wp2
        go_ret
        exact ⟨a', k, c', rfl, HF.out⟩
      · have hnx' : 0 < nx := by omega
        by_cases hk4 : 4096 < k
        · have HE : Hid (Y = out) := by
            unfold Hid
            rw [TI.out.eq, toldT_end TI.out.fu (.inr (by rw [TI.out.len]; exact hk4))]
          have hk5 : ¬ (k : Int) ≤ 4096 := by omega
          have HF := hid (HFIN.out wr a' k c' out HE.out TI.out.len.symm TI.out.own TI.out.up)
          go_wp2
          go_ret
          exact ⟨a', k, c', rfl, HF.out⟩
        · have hk5 : (k : Int) ≤ 4096 := by omega
          have HNE : Hid (¬ (x = [] ∨ 4096 < out.length)) := by
            rintro (q | q)
            · exact hnx (by rw [TI.out.hnx, q]; rfl)
            · rw [TI.out.len] at q; exact hk4 q
          have HNIL : Hid (∀ W : World, Y = [] → Below wr.heap.size wr W → Hid (0 = Y.length) ∧ Hid (OwnR W w.heap.size 43 4 (.slice none 0 0) (Y.map enRow)) ∧ Hid (Below w.heap.size w W)) := fun W e hb => HFIN.out W none 0 0 [] e rfl (OwnR.nil _ _ _ _) (up_trans TI.out.up hb)
          obtain ⟨v1, j1, e1, G1, C1⟩ := ger_any x TI.out.ox.1
          have HC1 := hid (C1 (.slice xa nx xc))
          have OXR : Hid (Octs wr (.slice xa nx xc) x) := TI.out.ox.up TI.out.up
          obtain ⟨d, hd⟩ : ∃ d : Nat, (at' : Int) - (pos : Int) = (d : Int) := ⟨at' - pos, by have := TI.out.pa; omega⟩
          have HD : Hid (d = at' - pos) := by have := TI.out.pa; unfold Hid; omega
          have hdw : IntKind.i64.wrap (d : Int) = (d : Int) := wrap64_id _ (by omega) (by omega)
          have hv1 := G1.2.1
          have HG1 : Hid (getOf x = ((v1 : Int), (j1 : Int), e1)) := G1.1
          clear C1
          by_cases he1 : e1 = 0
          · subst he1
            have hj1 : 1 ≤ j1 ∧ j1 ≤ x.length := by
              rcases G1.2.2 with q | q
              · exact absurd rfl q
              · exact q.2
            by_cases hvd : (d : Int) < (v1 : Int)
            · have HE : Hid (Y = []) := by
                unfold Hid
                rw [TI.out.eq, toldT_bad1 TI.out.fu HNE.out (.inr (by rw [HG1.out, ← HD.out]; exact hvd))]
              clear G1
              go_wp2_with fail
              refine (HC1.out _ OXR.out).mono ?_
              rintro e w3 ⟨rfl, d3, rfl⟩
              have HF := hid (HNIL.out _ HE.out (up_drewN wr d3))
              go_wp2
              go_ret
              exact ⟨none, 0, 0, rfl, HF.out⟩
            · -- the second number
              obtain ⟨A1, hA1⟩ : ∃ A, (if xc = j1 then xa else xa.map (fun x => x.add j1)) = A := ⟨_, rfl⟩
              have OX1 : Hid (Octs w2 (.slice A1 (nx - j1) (xc - j1)) (x.drop j1)) := by
                have h := TI.out.ox
                have hh := TI.out.hnx
                rw [hh] at h ⊢
                rw [← hA1]
                exact octs_from h j1 hj1.2
              obtain ⟨v2, j2, e2, G2, C2⟩ := ger_any (x.drop j1) OX1.out.1
              have HC2 := hid (C2 (.slice A1 (nx - j1) (xc - j1)))
              have HG2 : Hid (getOf (x.drop j1) = ((v2 : Int), (j2 : Int), e2)) := G2.1
              have hv2 := G2.2.1
              have i3 : (0 : Int) ≤ (j1 : Int) := by omega
              have i4 : (j1 : Int) ≤ (nx : Int) := by have := TI.out.hnx; omega
              obtain ⟨m, hm⟩ : ∃ m : Nat, m = nx - j1 := ⟨_, rfl⟩
              rw [← hm] at HC2
              have HM : Hid (m = nx - j1 ∧ nx = x.length ∧ 1 ≤ j1 ∧ j1 ≤ nx) := ⟨hm, TI.out.hnx, hj1.1, by have := TI.out.hnx; omega⟩
              rw [← hm] at OX1
              have hms : nx - j1 = m := hm.symm
              have hvd' : (v1 : Int) ≤ (d : Int) := by omega
              have HML : Hid (m ≤ 140737488351232) := by have := TI.out.xl; have := TI.out.hnx; unfold Hid; omega
              have hml := HML.out
              obtain ⟨g, hg⟩ : ∃ g, f = g + 1 := ⟨f - 1, by have := TI.out.fu; omega⟩
              have HST : Hid (Y = if e2 ≠ 0 ∨ ((m : Nat) : Int) - (j2 : Int) < (v2 : Int) then [] else if (decB ((b.drop pos).take v1)).2 ≠ 0 then [] else toldT g b at' (x.drop (j1 + (j2 + v2))) (pos + v1) (out ++ (decB ((b.drop pos).take v1)).1)) := by
                unfold Hid
                rw [TI.out.eq, hg, toldT_step HNE.out HG1.out (by rw [← HD.out]; exact hvd) HG2.out]
                rw [show (((x.drop j1).length : Nat) : Int) = ((m : Nat) : Int) by rw [List.length_drop]; have := HM.out; omega]
              have HGF : Hid (f = g + 1) := hg
              clear C2 hm hg G1
              by_cases he2 : e2 = 0
              · subst he2
                have hj2 : 1 ≤ j2 ∧ j2 ≤ m := by
                  rcases G2.2.2 with q | q
                  · exact absurd rfl q
                  · have := HM.out
                    rw [List.length_drop] at q
                    omega
                obtain ⟨r, hr⟩ : ∃ r : Nat, (m : Int) - (j2 : Int) = (r : Int) := ⟨m - j2, by omega⟩
                have hrw : IntKind.i64.wrap (r : Int) = (r : Int) := wrap64_id _ (by omega) (by omega)
                by_cases hvr : (r : Int) < (v2 : Int)
                · have HE : Hid (Y = []) := by
                    unfold Hid
                    rw [HST.out, if_pos (.inr (by rw [hr]; exact hvr))]
                  clear G2
                  go_wp2_with fail
                  refine (HC1.out _ OXR.out).mono ?_
                  rintro e w3 ⟨rfl, d3, hw3⟩
                  have U3 : Hid (Below wr.heap.size wr w3) := by rw [hw3]; exact up_drewN _ _
                  have OX3 : Hid (Octs w3 (.slice A1 m (xc - j1)) (x.drop j1)) := OX1.out.up (up_trans TI.out.up U3.out)
                  clear hw3
                  go_wp2_with fail
                  refine (HC2.out _ OX3.out).mono ?_
                  rintro e w4 ⟨rfl, d4, hw4⟩
                  have U4 : Hid (Below wr.heap.size wr w4) := by rw [hw4]; exact up_trans U3.out (up_drewN _ _)
                  clear hw4 U3 OX3
                  have HF := hid (HNIL.out _ HE.out U4.out)
                  go_wp2
                  go_ret
                  exact ⟨none, 0, 0, rfl, HF.out⟩
                · have hvr' : (v2 : Int) ≤ (r : Int) := by omega
                  have hv2w : IntKind.i64.wrap (v2 : Int) = (v2 : Int) := wrap64_id _ (by omega) (by omega)
                  have hv1w : IntKind.i64.wrap (v1 : Int) = (v1 : Int) := wrap64_id _ (by omega) (by omega)
                  obtain ⟨s2, hs2⟩ : ∃ s2 : Nat, (j2 : Int) + (v2 : Int) = (s2 : Int) := ⟨j2 + v2, by omega⟩
                  have hs2w : IntKind.i64.wrap (s2 : Int) = (s2 : Int) := wrap64_id _ (by omega) (by omega)
                  have i5 : (0 : Int) ≤ (s2 : Int) := by omega
                  have i6 : (s2 : Int) ≤ (m : Int) := by omega
                  obtain ⟨pe, hpe⟩ : ∃ pe : Nat, (pos : Int) + (v1 : Int) = (pe : Int) := ⟨pos + v1, by omega⟩
                  have hpe2 : pe ≤ at' := by have := HD.out; have := TI.out.pa; omega
                  have hpew : IntKind.i64.wrap (pe : Int) = (pe : Int) := wrap64_id _ (by omega) (by omega)
                  have i7 : (0 : Int) ≤ (pos : Int) := by omega
                  have i8 : (pos : Int) ≤ (pe : Int) := by omega
                  have i9 : (pe : Int) ≤ (c : Int) := by omega
                  obtain ⟨A2, hA2⟩ : ∃ A, (if xc - j1 = s2 then A1 else A1.map (fun x => x.add s2)) = A := ⟨_, rfl⟩
                  obtain ⟨A3, hA3⟩ : ∃ A, (if c = pos then a else a.map (fun x => x.add pos)) = A := ⟨_, rfl⟩
                  have OX2 : Hid (Octs w2 (.slice A2 (m - s2) (xc - j1 - s2)) (x.drop (j1 + (j2 + v2)))) := by
                    have h := OX1.out
                    have hh : m = (x.drop j1).length := by rw [List.length_drop]; have := HM.out; omega
                    rw [hh] at h ⊢
                    rw [← hA2, ← List.drop_drop, show j2 + v2 = s2 by omega]
                    exact octs_from h s2 (by omega)
                  have OB3 : Hid (Octs w2 (.slice A3 (pe - pos) (c - pos)) ((b.drop pos).take v1)) := by
                    have h := HVB.out
                    have hh := HN.out
                    rw [hh] at h
                    rw [← hA3, show v1 = pe - pos by omega]
                    exact octs_part h pos pe (by omega) (by omega)
                  have HDL : Hid (((b.drop pos).take v1).length ≤ 140737488351232) := by unfold Hid; have := HN.out; simp; omega
                  have HPE : Hid (pe = pos + v1 ∧ s2 = j2 + v2 ∧ pe ≤ at') := ⟨by omega, by omega, hpe2⟩
                  have HST2 : Hid (Y = if (decB ((b.drop pos).take v1)).2 ≠ 0 then [] else toldT g b at' (x.drop (j1 + (j2 + v2))) (pos + v1) (out ++ (decB ((b.drop pos).take v1)).1)) := by
                    unfold Hid
                    rw [HST.out, if_neg (by
                      rintro (q | q)
                      · exact q rfl
                      · rw [hr] at q; omega)]
                  have hpp : pe - pos = v1 := by omega
                  have HDE := hid (fun W (h : Octs W (.slice A3 (pe - pos) (c - pos)) ((b.drop pos).take v1)) => refDecB_any _ _ W h HDL.out)
                  rw [hpp] at HDE OB3
                  have HDB : Hid ((decB ((b.drop pos).take v1)).1.length ≤ 64) := decB_len _
                  clear HST G2 hpe2
                  generalize (b.drop pos).take v1 = BS at *
                  go_wp2_with fail
                  refine (HC1.out _ OXR.out).mono ?_
                  rintro e w3 ⟨rfl, d3, hw3⟩
                  have U3 : Hid (Below wr.heap.size wr w3) := by rw [hw3]; exact up_drewN _ _
                  have OX3 : Hid (Octs w3 (.slice A1 m (xc - j1)) (x.drop j1)) := OX1.out.up (up_trans TI.out.up U3.out)
                  clear hw3
                  go_wp2_with fail
                  refine (HC2.out _ OX3.out).mono ?_
                  rintro e w4 ⟨rfl, d4, hw4⟩
                  have U4 : Hid (Below wr.heap.size wr w4) := by rw [hw4]; exact up_trans U3.out (up_drewN _ _)
                  clear hw4 U3 OX3
                  have OB4 : Hid (Octs w4 (.slice A3 v1 (c - pos)) BS) := OB3.out.up (up_trans TI.out.up U4.out)
                  have OUT4 : Hid (OwnR w4 w2.heap.size 43 4 (.slice a' k c') (out.map enRow)) := TI.out.own.up U4.out
                  by_cases hdc : (decB BS).2 = 0
                  · have HDE2 := hid (HDE.out w4 OB4.out)
                    unfold DecE at HDE2
                    rw [hdc] at HDE2
                    have HST3 : Hid (Y = toldT g b at' (x.drop (j1 + (j2 + v2))) (pos + v1) (out ++ (decB BS).1)) := by
                      unfold Hid
                      rw [HST2.out, if_neg (fun q => q hdc)]
                    clear HST2 HDE OB4
                    generalize (decB BS).1 = DL at *
                    go_wp2_with fail
                    refine HDE2.out.mono ?_
                    rintro e w5 ⟨la, ln, lc, rfl, LO, u5⟩
                    have U5 : Hid (Below wr.heap.size wr w5) := up_trans U4.out u5.out
                    have OUT5 : Hid (OwnR w5 w2.heap.size 43 4 (.slice a' k c') (out.map enRow)) := OUT4.out.up u5.out
                    have RL : Hid (Rws 4 w5 (.slice la ln lc) (DL.map enRow)) := Rws.own LO.out.2
                    have HA4 : Hid (((out.map enRow).length + (DL.map enRow).length + ((out.map enRow).length + (DL.map enRow).length) / 4 + 192) * 48 ≤ 281474976710656 ∧ (out.map enRow).length + (DL.map enRow).length ≤ maxLen) := by
                      have h1 := TI.out.len
                      have h2 := HDB.out
                      unfold Hid maxLen; simp only [List.length_map]; omega
                    have HS5 : Hid (w2.heap.size ≤ w5.heap.size) := (up_trans TI.out.up U5.out).size
                    have HON : Hid (∀ cs ∈ DL.map enRow, ∀ u ∈ cs, u.oneCell' = true) := by
                      intro cs hcs u hu
                      obtain ⟨y, _, rfl⟩ := List.mem_map.1 hcs
                      exact enRow_one y (enRow y) (by simp) u hu
                    clear LO u5 HDE2 OUT4 U4
                    go_wp2_with (at_builtin; refine wpList_append_rows w5 rfl _ _ 22 43 _ 4 48 rfl Tryz.underlying22 Tryz.info43 rfl (by decide) w2.heap.size (.slice a' k c') (out.map enRow) rfl OUT5.out (.slice la ln lc) (DL.map enRow) rfl RL.out HON.out HA4.out.1 HA4.out.2 HS5.out ?_)
                    intro v6 w6 ho hg
                    have UW5 : Hid (Below w2.heap.size w2 w5) := up_trans TI.out.up U5.out
                    have U6 : Hid (Below w2.heap.size w2 w6) := UW5.out.grown hg UW5.out.size (fun q hq => (OUT5.out.2.lt q hq).1)
                    rw [← List.map_append] at ho
                    obtain ⟨a6, c6, e6, _, _⟩ := (Rws.own ho).len
                    simp only [List.length_append, List.length_map] at e6
                    obtain ⟨k6, hk6⟩ : ∃ k6, k6 = (out ++ DL).length := ⟨_, rfl⟩
                    rw [show out.length + DL.length = k6 by rw [hk6, List.length_append]] at e6
                    subst e6
                    have O6 : Hid (OwnR w6 w2.heap.size 43 4 (.slice a6 k6 c6) ((out ++ DL).map enRow)) := ho
                    have HK6 : Hid (k6 = (out ++ DL).length) := hk6
                    have hk7 : k6 ≤ 4160 := by rw [hk6, List.length_append, TI.out.len]; have := HDB.out; omega
                    clear ho hg hk6 OUT5 RL HA4 HS5 HON U5 UW5
                    go_wp2_with fail
                    have hhn := TI.out.hnx
                    have hM := HM.out
                    have hP := HPE.out
                    refine ⟨⟨g, k6, pe, out ++ DL, a6, c6, A2, m - s2, xc - j1 - s2, x.drop (j1 + (j2 + v2)), rfl, rfl, rfl, hk7, ?_⟩, by simp [sliceLen]; omega⟩
                    refine ⟨HK6.out.symm, by rw [List.length_drop]; omega, by rw [HST3.out, hP.1], by rw [List.length_drop]; have := TI.out.fu; have := HGF.out; omega, O6.out, OX2.out, U6.out, hP.2.2, by rw [List.length_drop]; have := TI.out.xl; omega⟩
                  · have HE : Hid (Y = []) := by
                      unfold Hid
                      rw [HST2.out, if_pos hdc]
                    have HDE2 := hid (HDE.out w4 OB4.out)
                    unfold DecE at HDE2
                    generalize (decB BS).2 = q at *
                    have hq1 : (q == 0) = false := by simp [hdc]
                    have hq2 : (q != 0) = true := by simp [hdc]
                    clear HST2 HDE
                    go_wp2_with fail
                    refine HDE2.out.mono ?_
                    rintro e w5 ⟨la, ln, lc, rfl, LO, u5⟩
                    have HF := hid (HNIL.out _ HE.out (up_trans U4.out u5.out))
                    go_wp2
                    go_ret
                    exact ⟨none, 0, 0, rfl, HF.out⟩
              · have he2a : (e2 == 0) = false := by simp [he2]
                have he2b : (e2 != 0) = true := by simp [he2]
                have HE : Hid (Y = []) := by
                  unfold Hid
                  rw [HST.out, if_pos (.inl he2)]
                clear G2
                go_wp2_with fail
                refine (HC1.out _ OXR.out).mono ?_
                rintro e w3 ⟨rfl, d3, hw3⟩
                have U3 : Hid (Below wr.heap.size wr w3) := by rw [hw3]; exact up_drewN _ _
                have OX3 : Hid (Octs w3 (.slice A1 m (xc - j1)) (x.drop j1)) := OX1.out.up (up_trans TI.out.up U3.out)
                clear hw3
                go_wp2_with fail
                refine (HC2.out _ OX3.out).mono ?_
                rintro e w4 ⟨rfl, d4, hw4⟩
                have U4 : Hid (Below wr.heap.size wr w4) := by rw [hw4]; exact up_trans U3.out (up_drewN _ _)
                clear hw4 U3 OX3
                have HF := hid (HNIL.out _ HE.out U4.out)
                go_wp2
                go_ret
                exact ⟨none, 0, 0, rfl, HF.out⟩
          · have he1a : (e1 == 0) = false := by simp [he1]
            have he1b : (e1 != 0) = true := by simp [he1]
            have HE : Hid (Y = []) := by
              unfold Hid
              rw [TI.out.eq, toldT_bad1 TI.out.fu HNE.out (.inl (by rw [HG1.out]; exact he1))]
            clear G1
            go_wp2_with fail
            refine (HC1.out _ OXR.out).mono ?_
            rintro e w3 ⟨rfl, d3, rfl⟩
            have HF := hid (HNIL.out _ HE.out (up_drewN wr d3))
            go_wp2
            go_ret
            exact ⟨none, 0, 0, rfl, HF.out⟩
  · have hge1 : (ge == 0) = false := by simp [hge]
    have hge2 : (ge != 0) = true := by simp [hge]
    rw [if_pos hge] at HTX
    go_wp2
    go_ret
    rw [HTX.out]
    refine ⟨none, 0, 0, rfl, rfl, OwnR.nil _ _ _ _, ?_⟩
    rw [HW2.out]
    exact U2

theorem refToldT_any (b : List Int) (a : Option Addr) (n c at' to' : Nat) (w : World) (hn : n = b.length) (hv : Octs w (.slice a n c) b) (hl : n ≤ 140737488351232) :
    Calls Tryz.prog 32 #[.slice a n c, .int .i64 at', .int .i64 to'] w fun e w' => ∃ a' n' c', e = .returned (.slice a' n' c') ∧ Hid (n' = (toldX b at' to').length) ∧ Hid (OwnR w' w.heap.size 43 4 (.slice a' n' c') ((toldX b at' to').map enRow)) ∧ Hid (Below w.heap.size w w') := by
  by_cases h1 : to' < at'
  · have e : toldX b at' to' = [] := by unfold toldX; rw [if_pos (.inl h1)]
    have h1' : (to' : Int) < (at' : Int) := by omega
    rw [e]
    clear hv e
    go_enter Tryz.func32, Tryz.ntmps32
    go_wp2
    go_ret
    exact ⟨none, 0, 0, rfl, rfl, OwnR.nil _ _ _ _, Below.refl _ _⟩
  · have h1' : ¬ (to' : Int) < (at' : Int) := by omega
    by_cases h2 : n < to'
    · have e : toldX b at' to' = [] := by unfold toldX; rw [if_pos (.inr (by omega))]
      have h2' : (n : Int) < (to' : Int) := by omega
      rw [e]
      clear hv e hn
      go_enter Tryz.func32, Tryz.ntmps32
      go_wp2
      go_ret
      exact ⟨none, 0, 0, rfl, rfl, OwnR.nil _ _ _ _, Below.refl _ _⟩
    · exact refToldT_loop b a n c at' to' w hn hv hl (by omega) (by omega)
end Go.Proofs.YtekoniaobmapdaaGreat
