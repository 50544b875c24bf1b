
import Derived.Test.YthiegmhplnbdlaaGreatG26
import Derived.Deep.RegionHeld3
namespace Go.Proofs.YthiegmhplnbdlaaGreat
open Go.RowKit SumPlain
set_option linter.unusedVariables false
set_option linter.unusedSimpArgs false
theorem results_entV {fn : Func} {q r s : Nat} (h : fn.results = #[.cell q 50, .tmp r, .tmp s]) (tmps : Array Value) (w : World) {N : Nat} {a b c d : Value} (ht : tmps.getD q undef = .pointer (some ⟨N, 0, none⟩))
    (hc : w.heap[N]? = some (.cells #[a, b, c, d] 50)) : (results fn tmps).run Tryz.prog w = .ok (.tuple #[.agg #[a, b, c, d], tmps.getD r undef, tmps.getD s undef]) w := by
  have c0 := blk_cell hc 0 a rfl
  have c1 := blk_cell hc 1 b rfl
  have c2 := blk_cell hc 2 c rfl
  have c3 := blk_cell hc 3 d rfl
  have ht' : tmps[q]?.getD undef = .pointer (some ⟨N, 0, none⟩) := by simpa using ht
  simp only [results, h]
  simp [ht', go_sem, c0, c1, c2, c3]
def entQ (prev l : List Int) : Option (En × Nat) :=
  match numsP prev.length l with
  | none => none
  | some (n, k, s, v, p) => if l.length < p + 1 + k + v then none else
    some (⟨strOfNums (prev.take n ++ (l.drop (p + 1)).take k), (s : Int), l.getD p 0, strOfNums ((l.drop (p + 1 + k)).take v)⟩, p + 1 + k + v)
def retV : Option (En × Nat) → Value
  | none => .tuple #[.agg #[.string ⟨#[]⟩, .int .i64 0, .int .i64 0, .string ⟨#[]⟩], .int .i64 0, .bool false]
  | some (x, m) => .tuple #[enV x, .int .i64 m, .bool true]
theorem stepN_le {top : Int} {l : List Int} {p v q : Nat} (hx : ∀ x ∈ l, 0 ≤ x ∧ x ≤ 255) (hp : p ≤ l.length) (h0 : 0 ≤ top) (h : stepN top l p = some (v, q)) : (v : Int) ≤ top ∧ q ≤ l.length := by
  unfold stepN at h
  split at h
  · rename_i hc
    simp only [Option.some.injEq, Prod.mk.injEq] at h
    obtain ⟨h1, h2⟩ := h
    rcases get_says (l.drop p) (fun x q => hx x (List.mem_of_mem_drop q)) with g | g | ⟨n, j, g, n0, n1, j1, j2, _, _⟩
    · rw [getRet_inj g] at hc; simp at hc
    · rw [getRet_inj g] at hc; simp at hc
    · rw [getRet_inj g] at hc h1 h2
      simp only at hc h1 h2
      rw [List.length_drop] at j2
      omega
  · cases h
theorem numsP_le {h : Nat} {l : List Int} {n k s v p : Nat} (hx : ∀ x ∈ l, 0 ≤ x ∧ x ≤ 255) (hs : numsP h l = some (n, k, s, v, p)) : n ≤ h ∧ k ≤ 96 ∧ s ≤ 1099511627776 ∧ v ≤ 512 ∧ p ≤ l.length := by
  unfold numsP at hs
  cases h1 : stepN h l 0 with
  | none => rw [h1] at hs; cases hs
  | some r1 =>
    obtain ⟨n', p1⟩ := r1
    rw [h1] at hs
    simp only at hs
    have b1 := stepN_le hx (Nat.zero_le _) (by omega) h1
    cases h2 : stepN 96 l p1 with
    | none => rw [h2] at hs; cases hs
    | some r2 =>
      obtain ⟨k', p2⟩ := r2
      rw [h2] at hs
      simp only at hs
      have b2 := stepN_le hx b1.2 (by omega) h2
      cases h3 : stepN 1099511627776 l p2 with
      | none => rw [h3] at hs; cases hs
      | some r3 =>
        obtain ⟨s', p3⟩ := r3
        rw [h3] at hs
        simp only at hs
        have b3 := stepN_le hx b2.2 (by omega) h3
        cases h4 : stepN 512 l p3 with
        | none => rw [h4] at hs; cases hs
        | some r4 =>
          obtain ⟨v', p4⟩ := r4
          rw [h4] at hs
          simp only [Option.some.injEq, Prod.mk.injEq] at hs
          obtain ⟨rfl, rfl, rfl, rfl, rfl⟩ := hs
          have b4 := stepN_le hx b3.2 (by omega) h4
          omega
theorem octs_midP {W : World} {b off c : Nat} {l : List Int} (h : Octs W (.slice (some ⟨b, off, none⟩) l.length c) l) (hne : l ≠ []) (p k : Nat) (hp : p + k ≤ l.length) : Octs W (.slice (if c = p then some ⟨b, off, none⟩ else some ⟨b, off + p, none⟩) k (c - p)) ((l.drop p).take k) := by
  have hc : l.length ≤ c := by
    rcases h.form with ⟨q, _⟩ | ⟨_, _, q⟩ | ⟨_, _, _, _, q, _⟩
    · cases q
    · exact absurd q hne
    · exact q
  by_cases hcp : c = p
  · rw [if_pos hcp, List.drop_eq_nil_of_le (by omega), show k = 0 by omega]
    exact ⟨by simp, .inl ⟨by simp, _, _, rfl, fun e => by cases e⟩⟩
  · rw [if_neg hcp]
    exact (h.back rfl p (by omega) hc).cut (by rw [List.length_drop]) k (by rw [List.length_drop]; omega)
set_option maxHeartbeats 4000000 in
set_option maxRecDepth 100000 in
theorem readVer_any (l prev : List Int) (a : Option Addr) (c : Nat) (w : World) (ho : Octs w (.slice a l.length c) l) (hpo : ∀ x ∈ prev, 0 ≤ x ∧ x ≤ 255) (hh : prev.length ≤ 1099511627776) (hl : l.length ≤ 140737488355328) :
    Calls Tryz.prog 111 #[.slice a l.length c, .string (strOfNums prev)] w fun e w' => e = .returned (retV (entQ prev l)) ∧ Hid (Below w.heap.size w w') := by
  have HO : Hid (Octs w (.slice a l.length c) l) := ho
  have hoct := ho.1
  have HPO : Hid (∀ x ∈ prev, 0 ≤ x ∧ x ≤ 255) := hpo
  obtain ⟨n, hn⟩ : ∃ n, n = l.length := ⟨_, rfl⟩
  have HN : Hid (n = l.length) := hn
  have hsz : (strOfNums prev).size = prev.length := str_size prev
  have HNM : Hid (∀ W : World, Octs W (.slice a n c) l → Calls Tryz.prog 121 #[.slice a n c, .int .i64 (prev.length : Nat)] W fun e w' => e = .returned (retN (numsP prev.length l)) ∧ Hid (Below W.heap.size W w')) := fun W h => by
    rw [hn] at h ⊢
    exact readNums_any l a c prev.length W h hh hl
  rw [← hn] at HO hl ⊢
  clear ho hn hpo
  obtain ⟨Z0, hZ0⟩ : ∃ Z0, Z0 = w.alloc (.cells #[.string ⟨#[]⟩, .int .i64 0, .int .i64 0, .string ⟨#[]⟩] 50) := ⟨_, rfl⟩
  have HZ0 : Hid (w.alloc (.cells #[.string ⟨#[]⟩, .int .i64 0, .int .i64 0, .string ⟨#[]⟩] 50) = Z0) := hZ0.symm
  have BZ0 : Hid (Z0.heap[w.heap.size]? = some (.cells #[.string ⟨#[]⟩, .int .i64 0, .int .i64 0, .string ⟨#[]⟩] 50)) := by rw [hZ0]; exact blk_new _ _
  have UZ0 : Hid (Below w.heap.size w Z0) := by rw [hZ0]; exact up_alloc _ _
  clear hZ0
  have HBAD : Hid (∀ wz : World, wz.heap[w.heap.size]? = some (.cells #[.string ⟨#[]⟩, .int .i64 0, .int .i64 0, .string ⟨#[]⟩] 50) → Below w.heap.size w wz → entQ prev l = none → ((((wz.setCell ⟨w.heap.size, 0, none⟩ (.string ⟨#[]⟩)).setCell ⟨w.heap.size, 1, none⟩ (.int .i64 0)).setCell ⟨w.heap.size, 2, none⟩ (.int .i64 0)).setCell ⟨w.heap.size, 3, none⟩ (.string ⟨#[]⟩)).heap[w.heap.size]? = some (.cells #[.string ⟨#[]⟩, .int .i64 0, .int .i64 0, .string ⟨#[]⟩] 50) ∧ Ending.returned (.tuple #[.agg #[.string ⟨#[]⟩, .int .i64 0, .int .i64 0, .string ⟨#[]⟩], .int .i64 0, .bool false]) = .returned (retV (entQ prev l)) ∧ Hid (Below w.heap.size w ((((wz.setCell ⟨w.heap.size, 0, none⟩ (.string ⟨#[]⟩)).setCell ⟨w.heap.size, 1, none⟩ (.int .i64 0)).setCell ⟨w.heap.size, 2, none⟩ (.int .i64 0)).setCell ⟨w.heap.size, 3, none⟩ (.string ⟨#[]⟩)))) := by
    intro wz hb hu he
    exact ⟨set4_blk hb _ _ _ _, by rw [he]; rfl, hu.grown (set4_grown wz w.heap.size _ _ _ _) hu.size (fun k hk => by injection hk with hk; omega)⟩
  cases hnp : numsP prev.length l with
  | none =>
    rw [hnp] at HNM
    have HE : Hid (entQ prev l = none) := by unfold Hid entQ; rw [hnp]
    clear hnp
    unfold retN at HNM
    go_enter Tryz.func111, Tryz.ntmps111
    go_wp2_with fail
    rw [HZ0.out]
    refine (HNM.out _ (HO.out.up UZ0.out)).mono ?_
    rintro e w1 ⟨rfl, u1⟩
    have X4 : Hid ((w1.alloc (.cells #[.int .i64 0, .int .i64 0, .int .i64 0, .int .i64 0] 189)).heap[w.heap.size]? = some (.cells #[.string ⟨#[]⟩, .int .i64 0, .int .i64 0, .string ⟨#[]⟩] 50)) := blk_up (blk_up BZ0.out u1.out) (up_alloc _ _)
    have U2 : Hid (Below w.heap.size w (w1.alloc (.cells #[.int .i64 0, .int .i64 0, .int .i64 0, .int .i64 0] 189))) := up_al (up_trans UZ0.out u1.out) _
    have y0 := blk_cell X4.out 0 _ rfl
    have y1 := blk_cell X4.out 1 _ rfl
    have y2 := blk_cell X4.out 2 _ rfl
    have y3 := blk_cell X4.out 3 _ rfl
    have f0 := blk_frozen X4.out 0
    have f1 := blk_frozen X4.out 1
    have f2 := blk_frozen X4.out 2
    have f3 := blk_frozen X4.out 3
    go_wp2_with fail
    obtain ⟨r1, r2, r3⟩ := HBAD.out _ X4.out U2.out HE.out
    refine bodyPost_ret (results_entV rfl _ _ rfl r1) rfl ?_
    exact ⟨r2, r3⟩
  | some r =>
    obtain ⟨n1, k, s, v, p⟩ := r
    obtain ⟨hn1, hk, hs, hv, hp⟩ := numsP_le hoct hnp
    rw [← HN.out] at hp
    rw [hnp] at HNM
    unfold retN at HNM
    obtain ⟨kA, hkA⟩ : ∃ kA, kA = p + 1 := ⟨_, rfl⟩
    obtain ⟨vA, hvA⟩ : ∃ vA, vA = kA + k := ⟨_, rfl⟩
    obtain ⟨sz, hszz⟩ : ∃ sz, sz = vA + v := ⟨_, rfl⟩
    have HEQ : Hid (entQ prev l = if n < sz then none else some (⟨strOfNums (prev.take n1 ++ (l.drop kA).take k), (s : Int), l.getD p 0, strOfNums ((l.drop vA).take v)⟩, sz)) := by
      unfold Hid entQ
      rw [hnp]
      simp only
      rw [HN.out, hszz, hvA, hkA]
    have a1 : (p : Int) + 1 = (kA : Int) := by omega
    have a2 : (kA : Int) + (k : Int) = (vA : Int) := by omega
    have a3 : (vA : Int) + (v : Int) = (sz : Int) := by omega
    have b1 : IntKind.i64.wrap (kA : Int) = (kA : Int) := wrap64_id _ (by omega) (by omega)
    have b2 : IntKind.i64.wrap (vA : Int) = (vA : Int) := wrap64_id _ (by omega) (by omega)
    have b3 : IntKind.i64.wrap (sz : Int) = (sz : Int) := wrap64_id _ (by omega) (by omega)
    have HKS : Hid (kA = p + 1 ∧ vA = kA + k ∧ sz = vA + v) := ⟨hkA, hvA, hszz⟩
    clear hkA hvA hszz hnp
    by_cases hsl : n < sz
    · have hsl' : (n : Int) < (sz : Int) := by omega
      have HE : Hid (entQ prev l = none) := by unfold Hid; rw [HEQ.out, if_pos hsl]
      clear HEQ
      go_enter Tryz.func111, Tryz.ntmps111
      go_wp2_with fail
      rw [HZ0.out]
      refine (HNM.out _ (HO.out.up UZ0.out)).mono ?_
      rintro e w1 ⟨rfl, u1⟩
      have X4 : Hid ((w1.alloc (.cells #[.int .i64 (n1 : Int), .int .i64 (k : Int), .int .i64 (s : Int), .int .i64 (v : Int)] 189)).heap[w.heap.size]? = some (.cells #[.string ⟨#[]⟩, .int .i64 0, .int .i64 0, .string ⟨#[]⟩] 50)) := blk_up (blk_up BZ0.out u1.out) (up_alloc _ _)
      have X7 : Hid ((w1.alloc (.cells #[.int .i64 (n1 : Int), .int .i64 (k : Int), .int .i64 (s : Int), .int .i64 (v : Int)] 189)).heap[w1.heap.size]? = some (.cells #[.int .i64 (n1 : Int), .int .i64 (k : Int), .int .i64 (s : Int), .int .i64 (v : Int)] 189)) := blk_new _ _
      have U2 : Hid (Below w.heap.size w (w1.alloc (.cells #[.int .i64 (n1 : Int), .int .i64 (k : Int), .int .i64 (s : Int), .int .i64 (v : Int)] 189))) := up_al (up_trans UZ0.out u1.out) _
      have y0 := blk_cell X4.out 0 _ rfl
      have y1 := blk_cell X4.out 1 _ rfl
      have y2 := blk_cell X4.out 2 _ rfl
      have y3 := blk_cell X4.out 3 _ rfl
      have f0 := blk_frozen X4.out 0
      have f1 := blk_frozen X4.out 1
      have f2 := blk_frozen X4.out 2
      have f3 := blk_frozen X4.out 3
      have q1 := blk_cell X7.out 1 _ rfl
      have q3 := blk_cell X7.out 3 _ rfl
      go_wp2_with fail
      obtain ⟨r1, r2, r3⟩ := HBAD.out _ X4.out U2.out HE.out
      refine bodyPost_ret (results_entV rfl _ _ rfl r1) rfl ?_
      exact ⟨r2, r3⟩
    · have hsl' : ¬ (n : Int) < (sz : Int) := by omega
      rw [if_neg hsl] at HEQ
      go_enter Tryz.func111, Tryz.ntmps111
      go_wp2_with fail
      rw [HZ0.out]
      refine (HNM.out _ (HO.out.up UZ0.out)).mono ?_
      rintro e w1 ⟨rfl, u1⟩
      have X4 : Hid ((w1.alloc (.cells #[.int .i64 (n1 : Int), .int .i64 (k : Int), .int .i64 (s : Int), .int .i64 (v : Int)] 189)).heap[w.heap.size]? = some (.cells #[.string ⟨#[]⟩, .int .i64 0, .int .i64 0, .string ⟨#[]⟩] 50)) := blk_up (blk_up BZ0.out u1.out) (up_alloc _ _)
      have X7 : Hid ((w1.alloc (.cells #[.int .i64 (n1 : Int), .int .i64 (k : Int), .int .i64 (s : Int), .int .i64 (v : Int)] 189)).heap[w1.heap.size]? = some (.cells #[.int .i64 (n1 : Int), .int .i64 (k : Int), .int .i64 (s : Int), .int .i64 (v : Int)] 189)) := blk_new _ _
      have U2 : Hid (Below w.heap.size w (w1.alloc (.cells #[.int .i64 (n1 : Int), .int .i64 (k : Int), .int .i64 (s : Int), .int .i64 (v : Int)] 189))) := up_al (up_trans UZ0.out u1.out) _
      have q1 := blk_cell X7.out 1 _ rfl
      have q3 := blk_cell X7.out 3 _ rfl
      go_wp2_with fail
      generalize w1.alloc (.cells #[.int .i64 (n1 : Int), .int .i64 (k : Int), .int .i64 (s : Int), .int .i64 (v : Int)] 189) = W2 at *
      generalize w1.heap.size = T7 at *
      clear u1 HZ0 HNM BZ0 UZ0 HBAD q1 q3
      have q0 : W2.drew.cell? ⟨T7, 0, none⟩ = some (.int .i64 (n1 : Int)) := blk_cell X7.out 0 _ rfl
      have q2 : W2.drew.cell? ⟨T7, 2, none⟩ = some (.int .i64 (s : Int)) := blk_cell X7.out 2 _ rfl
      have hne : l ≠ [] := fun h0 => by have := HKS.out; have := HN.out; rw [h0] at this; simp at this; omega
      obtain ⟨b, off, rfl⟩ : ∃ b off, a = some ⟨b, off, none⟩ := by
        have h := HO.out
        rw [HN.out] at h
        rcases h.form with ⟨_, q, _⟩ | ⟨_, _, q⟩ | ⟨b, off, q, _⟩
        · exact absurd q hne
        · exact absurd q hne
        · exact ⟨b, off, q⟩
      obtain ⟨A1, hA1⟩ : ∃ A, (if c = kA then some (⟨b, off, none⟩ : Addr) else some ⟨b, off + kA, none⟩) = A := ⟨_, rfl⟩
      obtain ⟨A2, hA2⟩ : ∃ A, (if c = vA then some (⟨b, off, none⟩ : Addr) else some ⟨b, off + vA, none⟩) = A := ⟨_, rfl⟩
      obtain ⟨L1, hL1⟩ : ∃ L, L = (l.drop kA).take k := ⟨_, rfl⟩
      obtain ⟨L2, hL2⟩ : ∃ L, L = (l.drop vA).take v := ⟨_, rfl⟩
      obtain ⟨x, hx⟩ : ∃ x, x = l.getD p 0 := ⟨_, rfl⟩
      have HM1 : Hid (∀ W : World, Octs W (.slice (some ⟨b, off, none⟩) n c) l → Octs W (.slice A1 k (c - kA)) L1) := fun W h => by
        have := HKS.out
        have hnn := HN.out
        rw [hnn] at h
        rw [← hA1, hL1]
        exact octs_midP h hne kA k (by omega)
      have HM2 : Hid (∀ W : World, Octs W (.slice (some ⟨b, off, none⟩) n c) l → Octs W (.slice A2 v (c - vA)) L2) := fun W h => by
        have := HKS.out
        have hnn := HN.out
        rw [hnn] at h
        rw [← hA2, hL2]
        exact octs_midP h hne vA v (by omega)
      have HMX : Hid (∀ W : World, Octs W (.slice (some ⟨b, off, none⟩) n c) l → W.cell? ⟨b, off + p, none⟩ = some (.int .u8 x)) := fun W h => by
        have := HKS.out
        have hnn := HN.out
        rcases h.2 with ⟨q, _⟩ | ⟨_, b', off', cap', hv', _, _, hcell⟩
        · exact absurd q hne
        · simp only [Value.slice.injEq, Option.some.injEq, Addr.mk.injEq] at hv'
          obtain ⟨⟨rfl, rfl, _⟩, _, _⟩ := hv'
          exact hcell p x (by rw [hx]; simp [List.getD]; rw [List.getElem?_eq_getElem (by omega)]; simp)
      have hxx : 0 ≤ x ∧ x ≤ 255 := by
        have := HKS.out
        have hnn := HN.out
        rw [hx]
        exact hoct _ (by simp [List.getD]; rw [List.getElem?_eq_getElem (show p < l.length by omega)]; simp)
      have hxw : IntKind.i64.wrap x = x := wrap64_id _ (by omega) (by omega)
      have HC0 : Hid (Octs W2.drew (.slice (some ⟨b, off, none⟩) n c) l) := HO.out.up (up_dr U2.out)
      have hcn : n ≤ c := by
        have h := HO.out
        have hnn := HN.out
        rw [hnn] at h
        rcases h.form with ⟨q, _⟩ | ⟨_, _, q⟩ | ⟨_, _, _, _, q, _⟩
        · cases q
        · exact absurd q hne
        · omega
      have hd1 : vA - kA = k := by have := HKS.out; omega
      have hd2 : sz - vA = v := by have := HKS.out; omega
      have i0 : (0 : Int) ≤ (kA : Int) := by omega
      have i1 : (kA : Int) ≤ (vA : Int) := by omega
      have i2 : (vA : Int) ≤ (c : Int) := by have := HKS.out; omega
      have i3 : (0 : Int) ≤ (vA : Int) := by omega
      have i4 : (vA : Int) ≤ (sz : Int) := by omega
      have i5 : (sz : Int) ≤ (c : Int) := by omega
      have i6 : (0 : Int) ≤ (n1 : Int) := by omega
      have i7 : (n1 : Int) ≤ (prev.length : Int) := by omega
      have i8 : (n1 : Int) ≤ ((strOfNums prev).size : Int) := by omega
      have i9 : (0 : Int) ≤ (p : Int) := by omega
      have i10 : (p : Int) < (n : Int) := by have := HKS.out; omega
      have hs1 : L1.length ≤ 96 := by rw [hL1]; simp; omega
      have hs2 : (strOfNums L1).size = L1.length := str_size L1
      have hsum : ¬ 9223372036854775807 < n1 + L1.length := by omega
      have HKK : Hid ((strOfNums prev).extract 0 n1 ++ strOfNums L1 = strOfNums (prev.take n1 ++ (l.drop kA).take k)) := by
        unfold Hid
        rw [str_cut, str_cat, hL1]
        simp
      have HEN : Hid (entQ prev l = some (⟨(strOfNums prev).extract 0 n1 ++ strOfNums L1, (s : Int), x, strOfNums L2⟩, sz)) := by
        unfold Hid
        rw [HEQ.out, HKK.out, hx, hL2]
      have HL1O : Hid (∀ y ∈ L1, 0 ≤ y ∧ y ≤ 255) := by unfold Hid; rw [hL1]; exact fun y hy => hoct y (List.mem_of_mem_drop (List.mem_of_mem_take hy))
      clear hL1 hL2 hx HEQ HKK hoct
      refine wp_region_held_drew (S := (fun w' => Octs w' (.slice (some ⟨b, off, none⟩) n c) l ∧ w'.cell? ⟨T7, 0, none⟩ = some (.int .i64 (n1 : Int)) ∧ w'.cell? ⟨T7, 2, none⟩ = some (.int .i64 (s : Int)))) (by kernel_rfl) (by (try dsimp only); exact ⟨HC0.out, q0, q2⟩) (fun hHeld => ?_)
      refine wpAnyH_take (i := 0) (v := ?_) rfl (by kernel_rfl) (by kernel_rfl) (by kernel_rfl) (fun _ _ _ h => h) (Or.inl ⟨by kernel_rfl, ?_⟩) (by assumption) ?_
      rotate_left
      focus (intro w hSw; (try dsimp only at hSw); go_simp; (try with_reducible rfl); done)
      try simp only [Act.put, List.getElem_toArray, List.getElem_cons_zero, List.getElem_cons_succ, List.setIfInBounds_toArray, List.set_cons_zero, List.set_cons_succ]
      refine wpAnyH_take (i := 1) (v := ?_) rfl (by kernel_rfl) (by kernel_rfl) (by kernel_rfl) (fun _ _ _ h => h) (Or.inl ⟨by kernel_rfl, ?_⟩) (by assumption) ?_
      rotate_left
      focus (intro w hSw; (try dsimp only at hSw); go_simp; (try with_reducible rfl); done)
      try simp only [Act.put, List.getElem_toArray, List.getElem_cons_zero, List.getElem_cons_succ, List.setIfInBounds_toArray, List.set_cons_zero, List.set_cons_succ]
      refine wpAnyH_take (i := 2) (v := ?_) rfl (by kernel_rfl) (by kernel_rfl) (by kernel_rfl) (fun _ _ _ h => h) (Or.inl ⟨by kernel_rfl, ?_⟩) (by assumption) ?_
      rotate_left
      focus (intro w hSw; (try dsimp only at hSw); have hz := hSw.2.1; go_simp; (try with_reducible rfl); done)
      try simp only [Act.put, List.getElem_toArray, List.getElem_cons_zero, List.getElem_cons_succ, List.setIfInBounds_toArray, List.set_cons_zero, List.set_cons_succ]
      refine wpAnyH_take (i := 3) (v := ?_) rfl (by kernel_rfl) (by kernel_rfl) (by kernel_rfl) (fun _ _ _ h => h) (Or.inl ⟨by kernel_rfl, ?_⟩) (by assumption) ?_
      rotate_left
      focus (intro w hSw; (try dsimp only at hSw); go_simp; (try with_reducible rfl); done)
      try simp only [Act.put, List.getElem_toArray, List.getElem_cons_zero, List.getElem_cons_succ, List.setIfInBounds_toArray, List.set_cons_zero, List.set_cons_succ]
      refine wpAnyH_take (i := 4) (v := ?_) rfl (by kernel_rfl) (by kernel_rfl) (by kernel_rfl) (fun _ _ _ h => h) (Or.inl ⟨by kernel_rfl, ?_⟩) (by assumption) ?_
      rotate_left
      focus (intro w hSw; (try dsimp only at hSw); go_simp; (try with_reducible rfl); done)
      try simp only [Act.put, List.getElem_toArray, List.getElem_cons_zero, List.getElem_cons_succ, List.setIfInBounds_toArray, List.set_cons_zero, List.set_cons_succ]
      refine wpAnyH_take (i := 5) (v := ?_) rfl (by kernel_rfl) (by kernel_rfl) (by kernel_rfl) (fun _ _ _ h => h) (Or.inl ⟨by kernel_rfl, ?_⟩) (by assumption) ?_
      rotate_left
      focus (intro w hSw; (try dsimp only at hSw); go_simp; (try with_reducible rfl); done)
      try simp only [Act.put, List.getElem_toArray, List.getElem_cons_zero, List.getElem_cons_succ, List.setIfInBounds_toArray, List.set_cons_zero, List.set_cons_succ]
      refine wpAnyH_take (i := 6) (v := ?_) rfl (by kernel_rfl) (by kernel_rfl) (by kernel_rfl) (fun _ _ _ h => h) (Or.inl ⟨by kernel_rfl, ?_⟩) (by assumption) ?_
      rotate_left
      focus (intro w hSw; (try dsimp only at hSw); go_simp; (try with_reducible rfl); done)
      try simp only [Act.put, List.getElem_toArray, List.getElem_cons_zero, List.getElem_cons_succ, List.setIfInBounds_toArray, List.set_cons_zero, List.set_cons_succ]
      refine wpAnyH_take (i := 7) (v := ?_) rfl (by kernel_rfl) (by kernel_rfl) (by kernel_rfl) (fun _ _ _ h => h) (Or.inl ⟨by kernel_rfl, ?_⟩) (by assumption) ?_
      rotate_left
      focus (intro w hSw; (try dsimp only at hSw); go_simp; (try with_reducible rfl); done)
      try simp only [Act.put, List.getElem_toArray, List.getElem_cons_zero, List.getElem_cons_succ, List.setIfInBounds_toArray, List.set_cons_zero, List.set_cons_succ]
      refine wpAnyH_take (i := 8) (v := ?_) rfl (by kernel_rfl) (by kernel_rfl) (by kernel_rfl) (fun _ _ _ h => h) (Or.inl ⟨by kernel_rfl, ?_⟩) (by assumption) ?_
      rotate_left
      focus (intro w hSw; (try dsimp only at hSw); have hz := run_convert_octs L1 _ w (HM1.out w hSw.1); go_simp; (try with_reducible rfl); done)
      try simp only [Act.put, List.getElem_toArray, List.getElem_cons_zero, List.getElem_cons_succ, List.setIfInBounds_toArray, List.set_cons_zero, List.set_cons_succ]
      refine wpAnyH_take (i := 9) (v := ?_) rfl (by kernel_rfl) (by kernel_rfl) (by kernel_rfl) (fun _ _ _ h => h) (Or.inl ⟨by kernel_rfl, ?_⟩) (by assumption) ?_
      rotate_left
      focus (intro w hSw; (try dsimp only at hSw); go_simp; (try with_reducible rfl); done)
      try simp only [Act.put, List.getElem_toArray, List.getElem_cons_zero, List.getElem_cons_succ, List.setIfInBounds_toArray, List.set_cons_zero, List.set_cons_succ]
      refine wpAnyH_take (i := 10) (v := ?_) rfl (by kernel_rfl) (by kernel_rfl) (by kernel_rfl) (fun _ _ _ h => h) (Or.inl ⟨by kernel_rfl, ?_⟩) (by assumption) ?_
      rotate_left
      focus (intro w hSw; (try dsimp only at hSw); go_simp; (try with_reducible rfl); done)
      try simp only [Act.put, List.getElem_toArray, List.getElem_cons_zero, List.getElem_cons_succ, List.setIfInBounds_toArray, List.set_cons_zero, List.set_cons_succ]
      refine wpAnyH_take (i := 11) (v := ?_) rfl (by kernel_rfl) (by kernel_rfl) (by kernel_rfl) (fun _ _ _ h => h) (Or.inl ⟨by kernel_rfl, ?_⟩) (by assumption) ?_
      rotate_left
      focus (intro w hSw; (try dsimp only at hSw); have hz := hSw.2.2; go_simp; (try with_reducible rfl); done)
      try simp only [Act.put, List.getElem_toArray, List.getElem_cons_zero, List.getElem_cons_succ, List.setIfInBounds_toArray, List.set_cons_zero, List.set_cons_succ]
      refine wpAnyH_take (i := 12) (v := ?_) rfl (by kernel_rfl) (by kernel_rfl) (by kernel_rfl) (fun _ _ _ h => h) (Or.inl ⟨by kernel_rfl, ?_⟩) (by assumption) ?_
      rotate_left
      focus (intro w hSw; (try dsimp only at hSw); go_simp; (try with_reducible rfl); done)
      try simp only [Act.put, List.getElem_toArray, List.getElem_cons_zero, List.getElem_cons_succ, List.setIfInBounds_toArray, List.set_cons_zero, List.set_cons_succ]
      refine wpAnyH_take (i := 13) (v := ?_) rfl (by kernel_rfl) (by kernel_rfl) (by kernel_rfl) (fun _ _ _ h => h) (Or.inl ⟨by kernel_rfl, ?_⟩) (by assumption) ?_
      rotate_left
      focus (intro w hSw; (try dsimp only at hSw); go_simp; (try with_reducible rfl); done)
      try simp only [Act.put, List.getElem_toArray, List.getElem_cons_zero, List.getElem_cons_succ, List.setIfInBounds_toArray, List.set_cons_zero, List.set_cons_succ]
      refine wpAnyH_take (i := 14) (v := ?_) rfl (by kernel_rfl) (by kernel_rfl) (by kernel_rfl) (fun _ _ _ h => h) (Or.inl ⟨by kernel_rfl, ?_⟩) (by assumption) ?_
      rotate_left
      focus (intro w hSw; (try dsimp only at hSw); go_simp; (try with_reducible rfl); done)
      try simp only [Act.put, List.getElem_toArray, List.getElem_cons_zero, List.getElem_cons_succ, List.setIfInBounds_toArray, List.set_cons_zero, List.set_cons_succ]
      refine wpAnyH_take (i := 15) (v := ?_) rfl (by kernel_rfl) (by kernel_rfl) (by kernel_rfl) (fun _ _ _ h => h) (Or.inl ⟨by kernel_rfl, ?_⟩) (by assumption) ?_
      rotate_left
      focus (intro w hSw; (try dsimp only at hSw); have hz := HMX.out w hSw.1; go_simp; (try with_reducible rfl); done)
      try simp only [Act.put, List.getElem_toArray, List.getElem_cons_zero, List.getElem_cons_succ, List.setIfInBounds_toArray, List.set_cons_zero, List.set_cons_succ]
      refine wpAnyH_take (i := 16) (v := ?_) rfl (by kernel_rfl) (by kernel_rfl) (by kernel_rfl) (fun _ _ _ h => h) (Or.inl ⟨by kernel_rfl, ?_⟩) (by assumption) ?_
      rotate_left
      focus (intro w hSw; (try dsimp only at hSw); go_simp; (try with_reducible rfl); done)
      try simp only [Act.put, List.getElem_toArray, List.getElem_cons_zero, List.getElem_cons_succ, List.setIfInBounds_toArray, List.set_cons_zero, List.set_cons_succ]
      refine wpAnyH_take (i := 17) (v := ?_) rfl (by kernel_rfl) (by kernel_rfl) (by kernel_rfl) (fun _ _ _ h => h) (Or.inl ⟨by kernel_rfl, ?_⟩) (by assumption) ?_
      rotate_left
      focus (intro w hSw; (try dsimp only at hSw); go_simp; (try with_reducible rfl); done)
      try simp only [Act.put, List.getElem_toArray, List.getElem_cons_zero, List.getElem_cons_succ, List.setIfInBounds_toArray, List.set_cons_zero, List.set_cons_succ]
      refine wpAnyH_take (i := 18) (v := ?_) rfl (by kernel_rfl) (by kernel_rfl) (by kernel_rfl) (fun _ _ _ h => h) (Or.inl ⟨by kernel_rfl, ?_⟩) (by assumption) ?_
      rotate_left
      focus (intro w hSw; (try dsimp only at hSw); go_simp; (try with_reducible rfl); done)
      try simp only [Act.put, List.getElem_toArray, List.getElem_cons_zero, List.getElem_cons_succ, List.setIfInBounds_toArray, List.set_cons_zero, List.set_cons_succ]
      refine wpAnyH_take (i := 19) (v := ?_) rfl (by kernel_rfl) (by kernel_rfl) (by kernel_rfl) (fun _ _ _ h => h) (Or.inl ⟨by kernel_rfl, ?_⟩) (by assumption) ?_
      rotate_left
      focus (intro w hSw; (try dsimp only at hSw); go_simp; (try with_reducible rfl); done)
      try simp only [Act.put, List.getElem_toArray, List.getElem_cons_zero, List.getElem_cons_succ, List.setIfInBounds_toArray, List.set_cons_zero, List.set_cons_succ]
      refine wpAnyH_take (i := 20) (v := ?_) rfl (by kernel_rfl) (by kernel_rfl) (by kernel_rfl) (fun _ _ _ h => h) (Or.inl ⟨by kernel_rfl, ?_⟩) (by assumption) ?_
      rotate_left
      focus (intro w hSw; (try dsimp only at hSw); go_simp; (try with_reducible rfl); done)
      try simp only [Act.put, List.getElem_toArray, List.getElem_cons_zero, List.getElem_cons_succ, List.setIfInBounds_toArray, List.set_cons_zero, List.set_cons_succ]
      refine wpAnyH_take (i := 21) (v := ?_) rfl (by kernel_rfl) (by kernel_rfl) (by kernel_rfl) (fun _ _ _ h => h) (Or.inl ⟨by kernel_rfl, ?_⟩) (by assumption) ?_
      rotate_left
      focus (intro w hSw; (try dsimp only at hSw); have hz := run_convert_octs L2 _ w (HM2.out w hSw.1); go_simp; (try with_reducible rfl); done)
      try simp only [Act.put, List.getElem_toArray, List.getElem_cons_zero, List.getElem_cons_succ, List.setIfInBounds_toArray, List.set_cons_zero, List.set_cons_succ]
      refine wpAnyH_take (i := 22) (v := ?_) rfl (by kernel_rfl) (by kernel_rfl) (by kernel_rfl) (fun _ _ _ h => h) (Or.inl ⟨by kernel_rfl, ?_⟩) (by assumption) ?_
      rotate_left
      focus (intro w hSw; (try dsimp only at hSw); go_simp; (try with_reducible rfl); done)
      try simp only [Act.put, List.getElem_toArray, List.getElem_cons_zero, List.getElem_cons_succ, List.setIfInBounds_toArray, List.set_cons_zero, List.set_cons_succ]
      refine wpAnyH_ready (rs := [23]) (by kernel_rfl) (by simp) ?_
      refine AllReadyH.cons rfl (fun K hK => ?_) AllReadyH.nil
      go_simp
      obtain ⟨WA, hWA⟩ : ∃ WA, WA = (W2.alloc (.cells #[.string ⟨#[]⟩, .int .i64 0, .int .i64 0, .string ⟨#[]⟩] 50)).drew := ⟨_, rfl⟩
      have HWA : Hid ((W2.alloc (.cells #[.string ⟨#[]⟩, .int .i64 0, .int .i64 0, .string ⟨#[]⟩] 50)).drew = WA) := hWA.symm
      have UA : Hid (Below W2.heap.size W2 WA) := by rw [hWA]; exact up_dr (up_alloc _ _)
      have BA : Hid (WA.heap[W2.heap.size]? = some (.cells #[.string ⟨#[]⟩, .int .i64 0, .int .i64 0, .string ⟨#[]⟩] 50)) := by rw [hWA]; exact blk_up (blk_new _ _) (up_dr (Below.refl _ _))
      have BT7 : Hid (WA.heap[T7]? = some (.cells #[.int .i64 (n1 : Int), .int .i64 (k : Int), .int .i64 (s : Int), .int .i64 (v : Int)] 189)) := blk_up X7.out UA.out
      have B4 : Hid (WA.heap[w.heap.size]? = some (.cells #[.string ⟨#[]⟩, .int .i64 0, .int .i64 0, .string ⟨#[]⟩] 50)) := blk_up X4.out UA.out
      have OA : Hid (Octs WA (.slice (some ⟨b, off, none⟩) n c) l) := (HO.out.up U2.out).up UA.out
      have HLT : Hid (T7 < W2.heap.size ∧ w.heap.size < W2.heap.size ∧ b < W2.heap.size) := ⟨blk_lt X7.out, blk_lt X4.out, (HO.out.up U2.out).lt b rfl hne⟩
      have s0 : WA.cell? ⟨T7, 0, none⟩ = some (.int .i64 (n1 : Int)) := blk_cell BT7.out 0 _ rfl
      have s2 : WA.cell? ⟨T7, 2, none⟩ = some (.int .i64 (s : Int)) := blk_cell BT7.out 2 _ rfl
      clear hWA
      rw [HWA.out]
      refine hK.out _ _ (by (try dsimp only); exact ⟨OA.out, s0, s2⟩) (fun hHeld => ?_)
      clear hK K HWA
      have UWA : Hid (Below w.heap.size w WA) := up_trans U2.out UA.out
      clear UA
      generalize W2.heap.size = TA at *
      try simp only [Act.put, List.getElem_toArray, List.getElem_cons_zero, List.getElem_cons_succ, List.setIfInBounds_toArray, List.set_cons_zero, List.set_cons_succ]
      have y0 := blk_cell BA.out 0 _ rfl
      have y1 := blk_cell BA.out 1 _ rfl
      have y2 := blk_cell BA.out 2 _ rfl
      have y3 := blk_cell BA.out 3 _ rfl
      have f0 := blk_frozen BA.out 0
      have f1 := blk_frozen BA.out 1
      have f2 := blk_frozen BA.out 2
      have f3 := blk_frozen BA.out 3
      refine wpAnyH_ready (rs := [24]) (by kernel_rfl) (by simp) ?_
      refine AllReadyH.cons rfl (fun K hK => ?_) AllReadyH.nil
      go_simp
      have hg := set4_grown WA TA (.string ((strOfNums prev).extract 0 n1 ++ strOfNums L1)) (.int .i64 (s : Int)) (.int .i64 x) (.string (strOfNums L2))
      have BB : Hid (((((WA.setCell ⟨TA, 0, none⟩ (.string ((strOfNums prev).extract 0 n1 ++ strOfNums L1))).setCell ⟨TA, 1, none⟩ (.int .i64 (s : Int))).setCell ⟨TA, 2, none⟩ (.int .i64 x)).setCell ⟨TA, 3, none⟩ (.string (strOfNums L2))).heap[TA]? = some (.cells #[.string ((strOfNums prev).extract 0 n1 ++ strOfNums L1), .int .i64 (s : Int), .int .i64 x, .string (strOfNums L2)] 50)) := set4_blk BA.out _ _ _ _
      generalize (((WA.setCell ⟨TA, 0, none⟩ (.string ((strOfNums prev).extract 0 n1 ++ strOfNums L1))).setCell ⟨TA, 1, none⟩ (.int .i64 (s : Int))).setCell ⟨TA, 2, none⟩ (.int .i64 x)).setCell ⟨TA, 3, none⟩ (.string (strOfNums L2)) = WB at *
      have OB : Hid (Octs WB (.slice (some ⟨b, off, none⟩) n c) l) := OA.out.far hg (fun q hq _ e => by simp [Value.ownBlock] at hq; injection e with e; have := HLT.out; omega)
      have BT7' : Hid (WB.heap[T7]? = some (.cells #[.int .i64 (n1 : Int), .int .i64 (k : Int), .int .i64 (s : Int), .int .i64 (v : Int)] 189)) := blk_grown BT7.out hg (fun e => by injection e with e; have := HLT.out; omega)
      have B4' : Hid (WB.heap[w.heap.size]? = some (.cells #[.string ⟨#[]⟩, .int .i64 0, .int .i64 0, .string ⟨#[]⟩] 50)) := blk_grown B4.out hg (fun e => by injection e with e; have := HLT.out; omega)
      have UB : Hid (Below w.heap.size w WB) := by
        have u := UWA.out
        exact u.grown hg u.size (fun q hq => by injection hq with hq; have := HLT.out; omega)
      have r0 : WB.cell? ⟨T7, 0, none⟩ = some (.int .i64 (n1 : Int)) := blk_cell BT7'.out 0 _ rfl
      have r2 : WB.cell? ⟨T7, 2, none⟩ = some (.int .i64 (s : Int)) := blk_cell BT7'.out 2 _ rfl
      refine hK.out _ _ (by (try dsimp only); exact ⟨OB.out, r0, r2⟩) (fun hHeld => ?_)
      clear hK K y0 y1 y2 y3 f0 f1 f2 f3 hg BA BT7 BT7' B4 OA OB s0 s2 r0 r2
      try simp only [Act.put, List.getElem_toArray, List.getElem_cons_zero, List.getElem_cons_succ, List.setIfInBounds_toArray, List.set_cons_zero, List.set_cons_succ]
      refine wpAnyH_done (by kernel_rfl) ?_ _
      have y0 := blk_cell B4'.out 0 _ rfl
      have y1 := blk_cell B4'.out 1 _ rfl
      have y2 := blk_cell B4'.out 2 _ rfl
      have y3 := blk_cell B4'.out 3 _ rfl
      have f0 := blk_frozen B4'.out 0
      have f1 := blk_frozen B4'.out 1
      have f2 := blk_frozen B4'.out 2
      have f3 := blk_frozen B4'.out 3
      have z0 := blk_cell BB.out 0 _ rfl
      have z1 := blk_cell BB.out 1 _ rfl
      have z2 := blk_cell BB.out 2 _ rfl
      have z3 := blk_cell BB.out 3 _ rfl
      generalize (strOfNums prev).extract 0 n1 ++ strOfNums L1 = KS at *
      go_wp2_with fail
      have r1 := set4_blk B4'.out (.string KS) (.int .i64 (s : Int)) (.int .i64 x) (.string (strOfNums L2))
      refine bodyPost_ret (results_entV rfl _ _ rfl r1) rfl ?_
      refine ⟨by rw [HEN.out]; rfl, UB.out.grown (set4_grown WB w.heap.size _ _ _ _) UB.out.size (fun q hq => by injection hq with hq; omega)⟩
end Go.Proofs.YthiegmhplnbdlaaGreat
