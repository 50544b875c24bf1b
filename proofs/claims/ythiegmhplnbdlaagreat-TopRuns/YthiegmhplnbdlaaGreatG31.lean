/- Texts of layers 1 to 13, in this order. -/
import Derived.Test.YthiegmhplnbdlaaGreatG26
import Derived.Deep.RegionHeld3
import Derived.Test.YthiegmhplnbdlaaGreatG30
import Derived.Test.YthiegmhplnbdlaaGreatG28

namespace Go.Proofs.YthiegmhplnbdlaaGreat
open Go.RowKit SumPlain
set_option linter.unusedVariables false
set_option linter.unusedSimpArgs false
theorem set3_blk {w : World} {N : Nat} {t : TypeId} {x0 x1 x2 : Value} (h : w.heap[N]? = some (.cells #[x0, x1, x2] t)) (a b c : Value) : (((w.setCell ⟨N, 0, none⟩ a).setCell ⟨N, 1, none⟩ b).setCell ⟨N, 2, none⟩ c).heap[N]? = some (.cells #[a, b, c] t) := by
  have := blk_set (blk_set (blk_set h 0 a) 1 b) 2 c
  simpa only [List.setIfInBounds_toArray, List.set_cons_zero, List.set_cons_succ] using this
theorem set3_grown (w : World) (N : Nat) (a b c : Value) : w.grownBy (((w.setCell ⟨N, 0, none⟩ a).setCell ⟨N, 1, none⟩ b).setCell ⟨N, 2, none⟩ c) (some N) :=
  grown_trans (grown_trans (grown_set w ⟨N, 0, none⟩ a) (grown_set _ ⟨N, 1, none⟩ b)) (grown_set _ ⟨N, 2, none⟩ c)
def OpE (o : List En × (Int × List Int) × Int) (w : World) (e : Ending) (w' : World) : Prop := ∃ ea en ec fa fn fc, e = .returned (.tuple #[.agg #[.slice ea en ec, .int .i64 o.2.1.1, .slice fa fn fc], .int .i64 o.2.2]) ∧ Hid (en = o.1.length ∧ OwnR w' w.heap.size 50 4 (.slice ea en ec) (o.1.map enRow)) ∧ Hid (fn = o.2.1.2.length ∧ OwnB w' w.heap.size (.slice fa fn fc) o.2.1.2) ∧ Hid (Below w.heap.size w w')
theorem ownB_far {w w' : World} {base r m : Nat} {v : Value} {l : List Int} (h : OwnB w base v l) (hg : w.grownBy w' (some r)) (hr : r < base) (hm : m ≤ r := by exact Nat.le_refl _) : OwnB w' m v l := by
  have hne : v.ownBlock = none ∨ v.ownBlock ≠ some r := by
    rcases h.2 with ⟨e, _⟩ | ⟨g, cap, cur, e, hg, _⟩
    · rw [e]; exact .inl rfl
    · right
      rw [e]
      intro q
      simp only [Value.ownBlock] at q
      simp at q
      omega
  exact OwnB.mono (World.ownsRow.kept h hg hne) (by omega)
theorem bare_len {l : List Int} (h : (bareOf l).2 = 0) (hl : l.length = 20) : (bareOf l).1.length = 16 := by
  have := (bareOf_good (l := l) (x := (bareOf l).1) (by rw [← h])).1
  omega
end Go.Proofs.YthiegmhplnbdlaaGreat

namespace Go.Proofs.YthiegmhplnbdlaaGreat
open Go.RowKit SumPlain
set_option linter.unusedVariables false
set_option linter.unusedSimpArgs false
set_option maxHeartbeats 2000000 in
set_option maxRecDepth 20000 in
theorem build_any (l : List En) (v : Value) (w : World) (hv : EntsR w v l) :
    Calls Tryz.prog 15 #[v] w fun e w' => ∃ a n c, e = .returned (.tuple #[.slice a n c, .int .i64 (buildB l).2]) ∧ Hid (n = (buildB l).1.length) ∧ Hid (OwnB w' w.heap.size (.slice a n c) (buildB l).1) ∧ Hid (Below w.heap.size w w') := by
  have HV : Hid (EntsR w v l) := hv
  obtain ⟨a, c, rfl, hc, hm⟩ := hv.len
  have HC := hid (checkT_any l _ w hv)
  have HB : Hid (chkT l = 0 → ∀ W : World, Below w.heap.size w W → Calls Tryz.prog 39 #[.slice a l.length c] W fun e w' => BldE l W e w') := fun h W hW => build_good l a c W (HV.out.up hW) h
  clear hv
  by_cases h0 : chkT l = 0
  · have e : buildB l = (tabO l, 0) := by unfold buildB; rw [if_pos h0]
    rw [e]
    have HB2 := hid (HB.out h0)
    rw [h0] at HC
    clear HB e h0
    generalize l.length = n at *
    go_enter Tryz.func15, Tryz.ntmps15
    go_wp2_with fail
    refine HC.out.mono ?_
    rintro e w1 ⟨rfl, b1⟩
    go_wp2_with fail
    refine (HB2.out w1 b1.out).mono ?_
    rintro e w2 ⟨ta, tn, tc, fa, fn, fc, rfl, ⟨h1, h2⟩, h3, b2⟩
    have H1 : Hid (tn = (tabO l).length) := h1
    have H2 : Hid (OwnB w2 w.heap.size (.slice ta tn tc) (tabO l)) := OwnB.mono h2 b1.out.size
    have H3 : Hid (Below w.heap.size w w2) := up_trans b1.out b2.out
    clear h1 h2 h3 b1 b2 HB2 HC
    go_wp2
    go_ret2
    first
      | exact ⟨ta, tn, tc, rfl, H1, H2.out, H3.out⟩
      | exact ⟨ta, tn, tc, rfl, H1, own_up H2.out (up_alloc _ _), up_al H3.out _⟩
  · have e : buildB l = ([], chkT l) := by unfold buildB; rw [if_neg h0]
    rw [e]
    clear HB e
    generalize chkT l = q at *
    generalize l.length = n at *
    have hq1 : (q == 0) = false := by simp [h0]
    have hq2 : (q != 0) = true := by simp [h0]
    go_enter Tryz.func15, Tryz.ntmps15
    go_wp2_with fail
    refine HC.out.mono ?_
    rintro e w1 ⟨rfl, b1⟩
    go_wp2
    go_ret2
    exact ⟨none, 0, 0, rfl, rfl, OwnB.nil _ _, b1⟩
end Go.Proofs.YthiegmhplnbdlaaGreat

namespace Go.Proofs.YthiegmhplnbdlaaGreat
open Go.RowKit SumPlain
set_option linter.unusedVariables false
set_option linter.unusedSimpArgs false
theorem gep_any (x : List Int) (hx : ∀ y ∈ x, 0 ≤ y ∧ y ≤ 255) : ∃ (v j : Nat) (e : Int), GeR x v j e ∧ ∀ (vs : Value) (W : World), Octs W vs x → Calls Tryz.prog 84 #[vs] W fun z w' => z = .returned (.tuple #[.int .u64 v, .int .i64 j, .int .i64 e]) ∧ Hid (Below W.heap.size W w') := by
  have key : ∀ (vs : Value) (W : World), Octs W vs x → Calls Tryz.prog 84 #[vs] W fun z w' => z = .returned (getRet x) ∧ Hid (Below W.heap.size W w') := fun vs W h => by
    refine (get_any x vs W h).mono ?_
    rintro z w' ⟨rfl, d, rfl⟩
    exact ⟨rfl, up_drewN _ _⟩
  rcases get_says x hx with q | q | ⟨n, j, q, n0, n1, j1, j2, _, _⟩
  · refine ⟨0, 0, 8, ⟨getRet_inj q, by omega, .inl (by decide)⟩, fun vs W h => ?_⟩
    have r := key vs W h
    rw [q] at r
    exact r
  · refine ⟨0, 0, 4, ⟨getRet_inj q, by omega, .inl (by decide)⟩, fun vs W h => ?_⟩
    have r := key vs W h
    rw [q] at r
    exact r
  · obtain ⟨v, rfl⟩ := Int.eq_ofNat_of_zero_le n0
    refine ⟨v, j, 0, ⟨getRet_inj q, by omega, .inr ⟨rfl, j1, j2⟩⟩, fun vs W h => ?_⟩
    have r := key vs W h
    rw [q] at r
    exact r
def rowP (x : List Int) : Option (Nat × Nat) :=
  if (getOf x).2.2 ≠ 0 then none else
    if (getOf (x.drop (getOf x).2.1.toNat)).2.2 ≠ 0 ∨ x.length < (getOf x).2.1.toNat + (getOf (x.drop (getOf x).2.1.toNat)).2.1.toNat + (getOf (x.drop (getOf x).2.1.toNat)).1.toNat then none
    else some ((getOf x).1.toNat, (getOf x).2.1.toNat + (getOf (x.drop (getOf x).2.1.toNat)).2.1.toNat + (getOf (x.drop (getOf x).2.1.toNat)).1.toNat)
def rowV (o : Option (Nat × Nat)) : Value := match o with
  | none => .tuple #[.int .u64 0, .int .i64 0, .bool false]
  | some (s, k) => .tuple #[.int .u64 s, .int .i64 k, .bool true]
theorem rowP_le {x : List Int} (hx : ∀ y ∈ x, 0 ≤ y ∧ y ≤ 255) {s k : Nat} (h : rowP x = some (s, k)) : 1 ≤ k ∧ k ≤ x.length ∧ s ≤ 18446744073709551615 := by
  obtain ⟨v, j, e, ⟨g1, g2, g3⟩, _⟩ := gep_any x hx
  unfold rowP at h
  rw [g1] at h
  simp only [Int.toNat_natCast] at h
  by_cases he : e ≠ 0
  · rw [if_pos he] at h; cases h
  · rw [if_neg he] at h
    obtain ⟨_, g4, g5⟩ := g3.resolve_left he
    by_cases hc : (getOf (x.drop j)).2.2 ≠ 0 ∨ x.length < j + (getOf (x.drop j)).2.1.toNat + (getOf (x.drop j)).1.toNat
    · rw [if_pos hc] at h; cases h
    · rw [if_neg hc] at h
      simp only [Option.some.injEq, Prod.mk.injEq] at h
      omega
set_option maxHeartbeats 2000000 in
set_option maxRecDepth 20000 in
theorem readRow_any (x : List Int) (a : Option Addr) (n c : Nat) (w : World) (hn : n = x.length) (hv : Octs w (.slice a n c) x) (hl : n ≤ 140737488351232) :
    Calls Tryz.prog 93 #[.slice a n c] w fun e w' => e = .returned (rowV (rowP x)) ∧ Hid (Below w.heap.size w w') := by
  have HX : Hid (∀ y ∈ x, 0 ≤ y ∧ y ≤ 255) := hv.1
  have HV : Hid (Octs w (.slice a n c) x) := hv
  have HN : Hid (n = x.length) := hn
  obtain ⟨v1, j1, e1, ⟨g1, g2, g3⟩, C1⟩ := gep_any x hv.1
  have HC1 := hid (C1 _ w hv)
  by_cases he : e1 = 0
  · obtain ⟨_, g4, g5⟩ := g3.resolve_left (by simpa using he)
    subst he
    have hoct2 : ∀ y ∈ x.drop j1, 0 ≤ y ∧ y ≤ 255 := fun y hy => hv.1 y (List.mem_of_mem_drop hy)
    obtain ⟨v2, j2, e2, ⟨k1, k2, k3⟩, C2⟩ := gep_any (x.drop j1) hoct2
    have HO2 : Hid (∀ W : World, Below w.heap.size w W → Calls Tryz.prog 84 #[.slice (if c = j1 then a else a.map (fun y => y.add j1)) (n - j1) (c - j1)] W fun z w' => z = .returned (.tuple #[.int .u64 v2, .int .i64 j2, .int .i64 e2]) ∧ Hid (Below W.heap.size W w')) := fun W hW => by
      have h : Octs W (.slice a x.length c) x := by rw [← hn]; exact hv.up hW
      have := octs_part h j1 x.length (by omega) (by omega)
      rw [List.take_of_length_le (by simp)] at this
      rw [hn]
      exact C2 _ W this
    obtain ⟨A, hA⟩ : ∃ A, (if c = j1 then a else a.map (fun y => y.add j1)) = A := ⟨_, rfl⟩
    rw [hA] at HO2
    have hnc : n ≤ c := by
      rcases (show Octs w (.slice a x.length c) x by rw [← hn]; exact hv).form with ⟨rfl, rfl, rfl⟩ | ⟨y, rfl, rfl⟩ | ⟨b, off, rfl, hne, h, _⟩
      · simp at g5; omega
      · simp at g5; omega
      · omega
    have hj1 : (j1 : Int) ≤ (n : Int) := by omega
    have hj1c : (n : Int) ≤ (c : Int) := by omega
    have hj1' : j1 ≤ n := by omega
    by_cases he2 : e2 = 0
    · obtain ⟨_, k4, k5⟩ := k3.resolve_left (by simpa using he2)
      subst he2
      rw [List.length_drop] at k5
      have hcj : ¬ c = j1 := by omega
      rw [if_neg hcj] at hA
      have hRP : rowP x = if x.length < j1 + j2 + v2 then none else some (v1, j1 + j2 + v2) := by
        unfold rowP
        rw [g1]
        simp only [Int.toNat_natCast]
        rw [k1]
        simp
      have hj12 : (j1 : Int) + (j2 : Int) = ((j1 + j2 : Nat) : Int) := by omega
      obtain ⟨K, hK⟩ : ∃ K, K = j1 + j2 := ⟨_, rfl⟩
      have a1 : (j1 : Int) + (j2 : Int) = (K : Int) := by omega
      have a2 : IntKind.i64.wrap (K : Int) = (K : Int) := by rw [IntKind.wrap_i64]; omega
      obtain ⟨R, hR⟩ : ∃ R, R = n - K := ⟨_, rfl⟩
      have a3 : (n : Int) - (K : Int) = (R : Int) := by omega
      have a4 : IntKind.i64.wrap (R : Int) = (R : Int) := by rw [IntKind.wrap_i64]; omega
      have a5 : IntKind.u64.wrap (R : Int) = (R : Int) := by simp [IntKind.wrap, IntKind.bits, IntKind.signed]; omega
      by_cases hsh : R < v2
      · have hsh' : (R : Int) < (v2 : Int) := by omega
        have HE : Hid (rowP x = none) := by unfold Hid; rw [hRP, if_pos (by omega)]
        clear hRP g3 k3 C1 C2 g1 k1 hv hn hoct2 hj12 hK hR
        go_enter Tryz.func93, Tryz.ntmps93
        go_wp2_with fail
        refine HC1.out.mono ?_
        rintro e w1 ⟨rfl, b1⟩
        go_wp2_with fail
        refine (HO2.out _ b1.out).mono ?_
        rintro e w2 ⟨rfl, b2⟩
        have U2 := hid (up_trans b1.out b2.out)
        clear b1 b2
        go_wp2
        go_ret3
        rw [HE.out]
        exact ⟨rfl, U2⟩
      · have hsh' : ¬ (R : Int) < (v2 : Int) := by omega
        have HE : Hid (rowP x = some (v1, j1 + j2 + v2)) := by unfold Hid; rw [hRP, if_neg (by omega)]
        have a6 : IntKind.i64.wrap (v2 : Int) = (v2 : Int) := by rw [IntKind.wrap_i64]; omega
        have a7 : IntKind.i64.wrap ((K : Int) + (v2 : Int)) = (K : Int) + (v2 : Int) := by rw [IntKind.wrap_i64]; omega
        have HK : Hid (((j1 + j2 + v2 : Nat) : Int) = (K : Int) + (v2 : Int)) := by unfold Hid; omega
        clear hRP g3 k3 C1 C2 g1 k1 hv hn hoct2 hj12 hK hR
        go_enter Tryz.func93, Tryz.ntmps93
        go_wp2_with fail
        refine HC1.out.mono ?_
        rintro e w1 ⟨rfl, b1⟩
        go_wp2_with fail
        refine (HO2.out _ b1.out).mono ?_
        rintro e w2 ⟨rfl, b2⟩
        have U2 := hid (up_trans b1.out b2.out)
        clear b1 b2
        go_wp2
        go_ret3
        rw [HE.out, rowV]
        simp only [HK.out]
        exact ⟨rfl, U2⟩
    · have HE : Hid (rowP x = none) := by
        unfold Hid rowP
        rw [g1]
        simp only [Int.toNat_natCast]
        rw [k1, if_neg (by simp), if_pos (.inl (by simpa using he2))]
      have hq1 : (e2 == 0) = false := by simp [he2]
      have hq2 : (e2 != 0) = true := by simp [he2]
      clear g3 k3 C1 C2 g1 k1 hv hn hoct2
      go_enter Tryz.func93, Tryz.ntmps93
      go_wp2_with fail
      refine HC1.out.mono ?_
      rintro e w1 ⟨rfl, b1⟩
      go_wp2_with fail
      refine (HO2.out _ b1.out).mono ?_
      rintro e w2 ⟨rfl, b2⟩
      have U2 := hid (up_trans b1.out b2.out)
      clear b1 b2
      go_wp2
      go_ret3
      rw [HE.out]
      exact ⟨rfl, U2⟩
  · have HE : Hid (rowP x = none) := by
      unfold Hid rowP
      rw [g1, if_pos (by simpa using he)]
    have hq1 : (e1 == 0) = false := by simp [he]
    have hq2 : (e1 != 0) = true := by simp [he]
    clear g3 C1 g1 hv hn
    go_enter Tryz.func93, Tryz.ntmps93
    go_wp2_with fail
    refine HC1.out.mono ?_
    rintro e w1 ⟨rfl, b1⟩
    go_wp2
    go_ret3
    rw [HE.out]
    exact ⟨rfl, b1⟩
end Go.Proofs.YthiegmhplnbdlaaGreat

namespace Go.Proofs.YthiegmhplnbdlaaGreat
open Go.RowKit Go.Shelf
set_option linter.unusedVariables false
set_option linter.unusedSimpArgs false
set_option maxRecDepth 20000
attribute [local go_sem] Oper.semAt_some
theorem blocks_any (a : Option Addr) (n c : Nat) (ia : Option Addr) (im ic : Nat) (w : World) : Calls Tryz.prog 73 #[.slice a n c, .slice ia im ic] w fun e w' => e = .returned (.func (.func 92) #[] #[.pointer (some ⟨w.heap.size, 0, none⟩), .pointer (some ⟨w.heap.size + 1, 0, none⟩)]) ∧ w' = (w.alloc (.cells #[.slice a n c] 25)).alloc (.cells #[.slice ia im ic] 25) := by
  go_enter Tryz.func73, Tryz.ntmps73
  go_wp2
  go_ret
  exact ⟨rfl, rfl⟩
theorem octs_fromT {W : World} {a : Option Addr} {n c : Nat} {l : List Int} (hn : n = l.length) (h : Octs W (.slice a n c) l) (p : Nat) (hp : p ≤ n) {A : Option Addr} (hA : (if c = p then a else a.map (fun x => x.add p)) = A) : Octs W (.slice A (n - p) (c - p)) (l.drop p) := by
  rw [hn] at h
  have := octs_part h p l.length (by omega) (by omega)
  rw [List.take_of_length_le (by simp), hA] at this
  rw [hn]
  exact this
theorem octs_to {W : World} {a : Option Addr} {n c : Nat} {l : List Int} (hn : n = l.length) (h : Octs W (.slice a n c) l) (p : Nat) (hp : p ≤ n) : Octs W (.slice a p c) (l.take p) := by
  rcases (show Octs W (.slice a l.length c) l by rw [← hn]; exact h).form with ⟨rfl, rfl, rfl⟩ | ⟨x, rfl, rfl⟩ | ⟨b, off, rfl, hne, _, _⟩
  · simp at hn
    obtain rfl : p = 0 := by omega
    subst hn
    simpa using h
  · simp at hn
    obtain rfl : p = 0 := by omega
    subst hn
    simpa using h
  · exact h.cut hn p (by omega)
theorem octs_cap {W : World} {a : Option Addr} {n c : Nat} {l : List Int} (hn : n = l.length) (h : Octs W (.slice a n c) l) : n ≤ c := by
  rcases (show Octs W (.slice a l.length c) l by rw [← hn]; exact h).form with ⟨rfl, rfl, rfl⟩ | ⟨x, rfl, rfl⟩ | ⟨b, off, rfl, hne, h, _⟩
  · simp at hn; omega
  · simp at hn; omega
  · omega
structure BkI (w0 : World) (left rows : List Int) (la : Option Addr) (ln lc : Nat) (ra : Option Addr) (rn rc : Nat) : Prop where
  h1 : ln = left.length
  o1 : Octs w0 (.slice la ln lc) left
  b1 : ln ≤ 140737488351232
  h2 : rn = rows.length
  o2 : Octs w0 (.slice ra rn rc) rows
  b2 : rn ≤ 140737488351232
set_option maxHeartbeats 2000000 in
theorem blk_in (m lp Bf : Nat) (w0 : World) (B I : List Int) (a : Option Addr) (n c : Nat) (ia : Option Addr) (im ic : Nat) (h0 : BkI w0 B I a n c ia im ic) (J : List Int → List Int → World → Prop) (D : World → Prop) (W : World)
    (hY : ∀ (left rows : List Int) (s k : Nat) (va : Option Addr) (vc : Nat) (W0 : World), rowP rows = some (s, k) → s ≤ left.length → Octs w0 (.slice va s vc) (left.take s) → J left rows W0 → YieldAt Fence.wide (m - 1) Tryz.prog lp #[.slice va s vc] W0 fun e W' => (e = .returned (.bool true) ∧ J (left.drop s) (rows.drop k) W') ∨ (e = .returned (.bool false) ∧ D W'))
    (hK : ∀ left rows W', J left rows W' → Below w0.heap.size w0 W' ∧ W'.cell? ⟨Bf, 0, none⟩ = some (.slice a n c) ∧ W'.cell? ⟨Bf + 1, 0, none⟩ = some (.slice ia im ic))
    (hU : ∀ left rows W1 W2, J left rows W1 → Below W1.heap.size W1 W2 → J left rows W2)
    (hJ : J B I W) :
    CallsIn Fence.wide m Tryz.prog 92 #[.func (.yield lp) #[] #[], .pointer (some ⟨Bf, 0, none⟩), .pointer (some ⟨Bf + 1, 0, none⟩)] W fun e W' => (∃ v, e = .returned v) ∧ ((∃ left rows, J left rows W' ∧ (rowP rows = none ∨ ∃ s k, rowP rows = some (s, k) ∧ left.length < s)) ∨ D W') := by
  refine callsIn_of_wp Tryz.func92 rfl trivial ?_ rfl
  simp only [Tryz.ntmps92, List.size_toArray, List.length_cons, List.length_nil, Nat.reduceAdd, Nat.reduceSub, Array.replicate_succ, Array.replicate_zero, List.push_toArray, List.append_toArray, List.nil_append, List.cons_append]
  obtain ⟨hb, k0, k1⟩ := hK B I W hJ
  gi_wp2
  gi_quiet (fail)
  have HJ := hid (hU B I W (W.drewN nq) hJ (up_drewN _ _))
  clear k0 k1 hb hJ
  generalize W.drewN nq = W1 at *
  gi_wp2
  gi_loopw [4, 5] (fun vl vr wr => ∃ (left rows : List Int) (la : Option Addr) (ln lc : Nat) (ra : Option Addr) (rn rc : Nat), vl = .slice la ln lc ∧ vr = .slice ra rn rc ∧ Hid (BkI w0 left rows la ln lc ra rn rc) ∧ Hid (J left rows wr)) (fun vl vr wr => match vr with | .slice _ rn _ => rn | _ => 0)
  case atStart => exact ⟨B, I, a, n, c, ia, im, ic, rfl, rfl, h0, HJ⟩
  case round =>
    clear HJ
    obtain ⟨left, rows, la, ln, lc, ra, rn, rc, rfl, rfl, HB, HJ⟩ := hrel
    have HRR := hid (readRow_any rows ra rn rc wr HB.out.h2 (HB.out.o2.up (hK left rows wr HJ.out).1) HB.out.b2)
    have hlc := octs_cap HB.out.h1 HB.out.o1
    have hrc := octs_cap HB.out.h2 HB.out.o2
    have hln := HB.out.b1
    have hrn := HB.out.b2
    have hu : IntKind.u64.wrap (ln : Int) = (ln : Int) := by simp [IntKind.wrap, IntKind.bits, IntKind.signed]; omega
    cases hrow : rowP rows with
    | none =>
      rw [hrow] at HRR
      simp only [rowV] at HRR
      have HROW := hid hrow
      clear hrow
      gi_wp2
      refine ⟨trivial, fun h => (by cases h), ?_⟩
      refine (callsIn_wide.2 HRR.out).mono ?_
      rintro e w1 ⟨rfl, b1⟩
      have HJ1 := hid (hU left rows _ _ HJ.out b1.out)
      clear b1 HJ HRR hY hK hU
      gi_wp2
      refine ⟨fun f h => (by cases h), ?_⟩
      gi_wp2
      refine bodyPost_ret (results_none rfl _ _ _) rfl ?_
      exact ⟨⟨_, rfl⟩, .inl ⟨left, rows, HJ1.out, .inl HROW.out⟩⟩
    | some sk =>
      obtain ⟨s, k⟩ := sk
      rw [hrow] at HRR
      simp only [rowV] at HRR
      obtain ⟨hk1, hk2, hs64⟩ := rowP_le (HB.out.o2).1 hrow
      have HROW := hid hrow
      rw [← HB.out.h2] at hk2
      by_cases hls : ln < s
      · have hls' : (ln : Int) < (s : Int) := by omega
        have HLS : Hid (left.length < s) := by unfold Hid; rw [← HB.out.h1]; exact hls
        clear hrow
        gi_wp2
        refine ⟨trivial, fun h => (by cases h), ?_⟩
        refine (callsIn_wide.2 HRR.out).mono ?_
        rintro e w1 ⟨rfl, b1⟩
        have HJ1 := hid (hU left rows _ _ HJ.out b1.out)
        clear b1 HJ HRR hY hK hU
        gi_wp2
        refine ⟨fun f h => (by cases h), ?_⟩
        gi_wp2
        refine bodyPost_ret (results_none rfl _ _ _) rfl ?_
        exact ⟨⟨_, rfl⟩, .inl ⟨left, rows, HJ1.out, .inr ⟨s, k, HROW.out, HLS.out⟩⟩⟩
      · have hls' : ¬ (ln : Int) < (s : Int) := by omega
        have hle : (s : Int) ≤ (ln : Int) := by omega
        have hle2 : s ≤ ln := by omega
        have hle3 : (s : Int) ≤ (lc : Int) := by omega
        have hke : (k : Int) ≤ (rn : Int) := by omega
        have HY := hid (fun (W0 : World) (h : J left rows W0) => hY left rows s k la lc W0 hrow (by rw [← HB.out.h1]; exact hle2) (octs_to HB.out.h1 HB.out.o1 s hle2) h)
        obtain ⟨LA, hLA⟩ : ∃ A, (if lc = s then la else la.map (fun x => x.add s)) = A := ⟨_, rfl⟩
        obtain ⟨RA, hRA⟩ : ∃ A, (if rc = k then ra else ra.map (fun x => x.add k)) = A := ⟨_, rfl⟩
        have HNX : Hid (BkI w0 (left.drop s) (rows.drop k) LA (ln - s) (lc - s) RA (rn - k) (rc - k)) := by
          refine ⟨by rw [List.length_drop, ← HB.out.h1], octs_fromT HB.out.h1 HB.out.o1 s hle2 hLA, by omega, by rw [List.length_drop, ← HB.out.h2], octs_fromT HB.out.h2 HB.out.o2 k hk2 hRA, by omega⟩
        clear hrow
        gi_wp2
        refine ⟨trivial, fun h => (by cases h), ?_⟩
        refine (callsIn_wide.2 HRR.out).mono ?_
        rintro e w1 ⟨rfl, b1⟩
        have HJ1 := hid (hU left rows _ _ HJ.out b1.out)
        obtain ⟨fn, tmps, asg, bod, hy, hR⟩ := HY.out w1 HJ1.out
        clear b1 HJ HRR hY hK hU HY
        gi_wp2
        refine ⟨fun h => (by cases h), hR.mono ?_⟩
        rintro e W3 (⟨rfl, hJ3⟩ | ⟨rfl, hD3⟩)
        · have HJ3 := hid hJ3
          clear hJ3 hR hy
          gi_wp2
          exact ⟨⟨left.drop s, rows.drop k, LA, ln - s, lc - s, RA, rn - k, rc - k, rfl, rfl, HNX, HJ3⟩, by simp; omega⟩
        · have HD3 : Hid (D W3) := hD3
          clear hD3 hR hy
          gi_wp2
          refine bodyPost_ret (results_none rfl _ _ _) rfl ?_
          exact ⟨⟨_, rfl⟩, .inr HD3.out⟩
end Go.Proofs.YthiegmhplnbdlaaGreat
