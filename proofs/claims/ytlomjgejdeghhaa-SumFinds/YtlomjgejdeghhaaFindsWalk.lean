/- The law SumFinds, walked. -/
import Derived.Test.YtlomjgejdeghhaaOwnWalk
import Derived.Deep.CutRange
import Derived.BigCall
namespace Go.Proofs.Ytlomjgejdeghhaa
open Go.RowKit SumPlain
set_option linter.unusedVariables false

set_option maxHeartbeats 1000000 in
theorem finds_none (v : Value) (at_ : Int) (l : List Int) (w : World) (hv : Octs w v l) (hl : l.length ≤ 140737488351232) :
    Calls Try.prog 6 #[v, .int .i64 at_, .int .u32 0] w fun e w' => e = .returned (.bool true) ∧ Below w.heap.size w w' := by
  have HV : Hid (Octs w v l) := hv
  obtain ⟨a, cap, rfl, _, _⟩ := hv.len
  clear hv
  have hgl := guard_len l
  go_enter Try.func6, Try.ntmps6
  go_wp2_with fail
  refine (alive_any _).mono ?_
  rintro e w1 ⟨rfl, hb1⟩
  go_wp2_with fail
  refine (guard_any l _ _ (HV.out.up hb1) hl).mono ?_
  rintro e w2 ⟨v2, rfl, hown2, hb2⟩
  obtain ⟨a2, cap2, rfl, hcap2⟩ := own_len hown2
  rw [hgl] at hcap2 hown2 ⊢
  have up2 : Hid (Below w.heap.size w w2) := up_trans hb1 hb2
  clear hown2 hb1 hb2
  go_wp2
  go_ret
  exact ⟨rfl, up2.out⟩

theorem place (a N : Int) (hN : 0 < N) (hM : N ≤ 1152921504606846976) : ∃ p : Nat, (wrap64 (a.tmod N + N)).tmod N = (p : Int) ∧ (p : Int) < N := by
  have h1 := Int.tmod_lt_of_pos a hN
  have h2 : -N < a.tmod N := by
    have := Int.lt_tmod_of_pos a hN
    exact this
  generalize a.tmod N = q at *
  have e : wrap64 (q + N) = q + N := by
    unfold wrap64
    omega
  rw [e]
  have h3 := Int.tmod_lt_of_pos (q + N) hN
  have h4 : 0 ≤ (q + N).tmod N := Int.tmod_nonneg N (by omega)
  exact ⟨((q + N).tmod N).toNat, by omega, by omega⟩

/-- The k-th of a word's bits, as the law asks for it. -/
theorem bit_at (t : BitVec 32) (k : Nat) : (t.toNat : Int) * 2 ^ k % 4294967296 / 2147483648 = if (t <<< k).msb then 1 else 0 := by
  have e := shl32 t k
  have f := shr_top (t <<< k)
  rw [← f, ← e]

theorem turn_mask (r : Nat) (h : r < 8) : (128 : Int) / 2 ^ r = ((128#8 >>> r).toNat : Int) := by
  have : r = 0 ∨ r = 1 ∨ r = 2 ∨ r = 3 ∨ r = 4 ∨ r = 5 ∨ r = 6 ∨ r = 7 := by omega
  rcases this with rfl | rfl | rfl | rfl | rfl | rfl | rfl | rfl <;> decide

set_option maxRecDepth 4000 in
set_option maxHeartbeats 1000000 in
theorem finds_some (v : Value) (at_ : Int) (t : BitVec 32) (l : List Int) (w : World) (hv : Octs w v l) (hl : l.length ≤ 140737488351232) (h0 : -9223372036854775808 ≤ at_) (h1 : at_ ≤ 9223372036854775807) (ht : t ≠ 0#32) :
    Calls Try.prog 6 #[v, .int .i64 at_, .int .u32 (t.toNat : Int)] w fun e w' => e = .returned (.bool true) ∧ Below w.heap.size w w' := by
  have HV : Hid (Octs w v l) := hv
  obtain ⟨a, cap, rfl, _, _⟩ := hv.len
  clear hv
  have hgl := guard_len l
  have ht0 : ¬ t.toNat = 0 := fun h => ht (BitVec.eq_of_toNat_eq h)
  have ht1 : ((t.toNat : Int) == 0) = false := by rw [beq_eq_false_iff_ne]; omega
  go_enter Try.func6, Try.ntmps6
  go_wp2_with fail
  refine (alive_any _).mono ?_
  rintro e w1 ⟨rfl, hb1⟩
  go_wp2_with fail
  refine (guard_any l _ _ (HV.out.up hb1) hl).mono ?_
  rintro e w2 ⟨v2, rfl, hown2, hb2⟩
  obtain ⟨a2, cap2, rfl, hcap2⟩ := own_len hown2
  rw [hgl] at hcap2 hown2 ⊢
  obtain ⟨p, hp, hpn⟩ := place at_ (8 * (l.length : Int) + 1) (by omega) (by omega)
  have HP : Hid ((wrap64 (at_.tmod (8 * (l.length : Int) + 1) + (8 * (l.length : Int) + 1))).tmod (8 * (l.length : Int) + 1) = (p : Int)) := hp
  clear hp
  obtain ⟨g, rfl⟩ : ∃ g, a2 = some ⟨g, 0, none⟩ := by
    obtain ⟨_, h⟩ := hown2
    rcases h with ⟨e, _⟩ | ⟨g, c2, cur, e, _⟩
    · simp at e
    · simp at e
      exact ⟨g, e.1⟩
  have hgb := (hown2.lt g rfl).1
  have hs1 := hb1.size
  have up2 : Hid (Below w.heap.size w w2) := up_trans hb1 hb2
  have HO2 : Hid (OwnB w2 w1.heap.size (.slice (some ⟨g, 0, none⟩) (l.length + 4) cap2) (guardOf l) ∧ (guardOf l).length = l.length + 4 ∧ (∀ x ∈ guardOf l, 0 ≤ x ∧ x ≤ 255) ∧ ext ones (guardOf l) = turned t (8 * (l.length + 4) - p - 0) 0) := ⟨hown2, hgl, guard_octet l HV.out.1, by rw [turned_zero, guard_zero]⟩
  clear hown2 hb1 hb2
  go_upto_region 7 with fail
  go_cut [1] from 12 (fun s1 wx => s1 = .int .i64 p ∧ wx = w2)
  case first =>
    go_wp2
    go_meet
    case rel => exact ⟨by rw [HP.out], rfl⟩
  case rest =>
  obtain ⟨rfl, rfl⟩ := hcut
  go_wp2_with fail
  go_loopw [9] (fun i wr => ∃ (k : Nat) (l' : List Int), k ≤ 32 ∧ i = .int .i64 k ∧ Hid (OwnB wr w1.heap.size (.slice (some ⟨g, 0, none⟩) (l.length + 4) cap2) l' ∧ l'.length = l.length + 4 ∧ (∀ x ∈ l', 0 ≤ x ∧ x ≤ 255) ∧ ext ones l' = turned t (8 * (l.length + 4) - p - k) k) ∧ Hid (Below w.heap.size w wr)) (fun i _ => 32 - (intOf i).toNat)
  case atStart => exact ⟨0, guardOf l, Nat.zero_le _, rfl, HO2, up2⟩
  case round =>
    obtain ⟨k, l', hk, rfl, HO, up⟩ := hrel
    by_cases hlt : k < 32
    · have hlt' : (k : Int) < 32 := by omega
      have k0 : ¬ (k : Int) < 0 := by omega
      have hbit := bit_at t k
      cases hm : (t <<< k).msb
      · rw [hm] at hbit
        simp only [Bool.false_eq_true, if_false] at hbit
        have HO3 : Hid (OwnB wr w1.heap.size (.slice (some ⟨g, 0, none⟩) (l.length + 4) cap2) l' ∧ l'.length = l.length + 4 ∧ (∀ x ∈ l', 0 ≤ x ∧ x ≤ 255) ∧ ext ones l' = turned t (8 * (l.length + 4) - p - (k + 1)) (k + 1)) := by
          obtain ⟨q1, q2, q3, q4⟩ := HO.out
          refine ⟨q1, q2, q3, ?_⟩
          rw [q4, turned_step, hm]
          have e : 8 * (l.length + 4) - p - (k + 1) + 1 = 8 * (l.length + 4) - p - k := by omega
          rw [e]
          simp
        go_wp2
        exact ⟨⟨k + 1, l', by omega, by go_num, HO3, up⟩, by simp [intOf]; omega⟩
      · rw [hm] at hbit
        simp only [if_true] at hbit
        obtain ⟨q1, q2, q3, q4⟩ := HO.out
        obtain ⟨j, hj⟩ : ∃ j : Nat, j = (p + k) / 8 := ⟨_, rfl⟩
        obtain ⟨r, hr⟩ : ∃ r : Nat, r = (p + k) % 8 := ⟨_, rfl⟩
        have hjl : j < l.length + 4 := by omega
        have hjl' : (j : Int) < (l.length : Int) + 4 := by omega
        have hj0 : (0 : Int) ≤ (j : Int) := by omega
        have hq : ((p : Int) + (k : Int)) / 8 = (j : Int) := by omega
        have hrr : ((p : Int) + (k : Int)) % 8 = (r : Int) := by omega
        have hpk : (p : Int) + (k : Int) ≤ 2000000000000000 := by omega
        have hpk0 : 0 ≤ (p : Int) + (k : Int) := by omega
        have hr0 : ¬ (r : Int) < 0 := by omega
        have hr8 : r < 8 := by omega
        have hw1 : IntKind.i64.wrap ((p : Int) + (k : Int)) = (p : Int) + (k : Int) := by
          rw [IntKind.wrap_i64]
          omega
        have hw2 : ((p : Int) + (k : Int)).tdiv 8 = (j : Int) := by rw [Int.tdiv_eq_ediv_of_nonneg hpk0]; omega
        have hw3 : IntKind.i64.wrap (j : Int) = (j : Int) := by
          rw [IntKind.wrap_i64]
          omega
        have hw4 : ((p : Int) + (k : Int)).tmod 8 = (r : Int) := by rw [Int.tmod_eq_emod_of_nonneg hpk0]; omega
        unfold OwnB at q1
        rw [q2] at q1
        have hc0 := q1.cellAt j (by omega)
        have hf0 := q1.frozenAt j
        have hy : l'[j]? = some (l'.getD j 0) := by simp [List.getD, (by omega : j < l'.length)]
        rw [List.getElem?_map, hy] at hc0
        simp only [Option.map_some] at hc0
        have HSt : Hid (∀ z : Int, OwnB (wr.setCell ⟨g, j, none⟩ (.int .u8 z)) w1.heap.size (.slice (some ⟨g, 0, none⟩) (l.length + 4) cap2) (l'.set j z)) := by
          intro z
          have hst := q1.stored j (.int .u8 z)
          unfold OwnB
          rw [List.length_set, q2, List.map_set]
          exact hst.1
        have HE : Hid (∀ m : Int, m = ((128#8 >>> r).toNat : Int) → (l'.set j (bits .xor .u8 (l'.getD j 0) m)).length = l.length + 4 ∧ (∀ x ∈ l'.set j (bits .xor .u8 (l'.getD j 0) m), 0 ≤ x ∧ x ≤ 255) ∧ ext ones (l'.set j (bits .xor .u8 (l'.getD j 0) m)) = turned t (8 * (l.length + 4) - p - (k + 1)) (k + 1)) := by
          intro m hmm
          have := ext_set ones l' (p + k) q3 (by rw [q2]; omega) m (by rw [hmm, hr])
          rw [← hj] at this
          refine ⟨by rw [List.length_set, q2], this.2, ?_⟩
          rw [this.1, q4, q2, turned_step, hm]
          have e : 8 * (l.length + 4) - p - (k + 1) + 1 = 8 * (l.length + 4) - p - k := by omega
          have e2 : 8 * (l.length + 4) - (p + k) = 8 * (l.length + 4) - p - k := by omega
          rw [e, e2]
          rfl
        have up3 : Hid (∀ v, Below w.heap.size w (wr.setCell ⟨g, j, none⟩ v)) := fun v => Below.setCell up.out (Nat.le_trans hs1 hgb) v
        clear q1 q3 q4 HO hj hr
        generalize l'.getD j 0 = y at *
        go_wp2_with fail
        go_region
        all_goals
          go_wp2
          exact ⟨⟨k + 1, l'.set j (bits .xor .u8 y (128 / 2 ^ r)), by omega, by go_num, ⟨HSt.out _, HE.out _ (turn_mask r hr8)⟩, up_dr (up3.out _)⟩, by simp [intOf]; omega⟩
    · have hlt' : ¬ (k : Int) < 32 := by omega
      obtain rfl : k = 32 := by omega
      have HB : Hid (Octs wr (.slice (some ⟨g, 0, none⟩) (l.length + 4) cap2) l' ∧ l'.length = l.length + 4 ∧ bareOf l' = ([], 21)) := by
        obtain ⟨q1, q2, q3, q4⟩ := HO.out
        refine ⟨Octs.own q1 q3, q2, bare_not l' (by omega) ?_⟩
        rw [q4]
        exact turned_all t _ ht
      go_wp2_with fail
      refine (bare_any l' _ _ HB.out.1 (by rw [HB.out.2.1]; omega)).mono ?_
      rintro e w5 ⟨v5, rfl, hown5, hb5⟩
      rw [HB.out.2.2] at hown5 ⊢
      obtain ⟨a5, cap5, rfl, _⟩ := own_len hown5
      simp only [List.length_nil]
      go_wp2_with fail
      refine (num_any _ _).mono ?_
      rintro e w6 ⟨rfl, rfl⟩
      go_wp2
      go_ret
      exact ⟨rfl, up_trans up.out hb5⟩

theorem finds_walk (v : Value) (at_ : Int) (t : BitVec 32) (l : List Int) (w : World) (hv : Octs w v l) (hl : l.length ≤ 140737488351232) (hw : (Lit.int .i64 at_).wf = true) :
    Calls Try.prog 6 #[v, .int .i64 at_, .int .u32 (t.toNat : Int)] w fun e w' => e = .returned (.bool true) ∧ Below w.heap.size w w' := by
  obtain ⟨h0, h1⟩ := bounds_i64 hw
  by_cases c : t = 0#32
  · subst c
    exact finds_none v at_ l w hv hl
  · exact finds_some v at_ t l w hv hl h0 h1 c
end Go.Proofs.Ytlomjgejdeghhaa
