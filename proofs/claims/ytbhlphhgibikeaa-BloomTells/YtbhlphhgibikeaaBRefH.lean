/- The document's Has; what both Makes refuse. -/
import Derived.Test.YtbhlphhgibikeaaBRefM
namespace Go.Proofs.Ytbhlphhgibikeaa
open Go.RowKit
set_option linter.unusedVariables false

/-- A bit of an octet, looked at from either side. -/
theorem bit_side (x : Nat) (j : Nat) (hx : x < 256) (hj : j < 8) : ((x / 2 ^ j % 2 = 0) ↔ (x &&& 2 ^ j = 0)) := by
  have h : ∀ x : Fin 256, ∀ j : Fin 8, ((x.val / 2 ^ j.val % 2 = 0) ↔ (x.val &&& 2 ^ j.val = 0)) := by decide +kernel
  exact h ⟨x, hx⟩ ⟨j, hj⟩

theorem bit_low (x : Int) (j : Nat) (h0 : 0 ≤ x) (h1 : x ≤ 255) : bits .and .u8 (x / 2 ^ j) 1 = ((x.toNat / 2 ^ j % 2 : Nat) : Int) := by
  have e : x / 2 ^ j = ((x.toNat / 2 ^ j : Nat) : Int) := by
    rw [Int.natCast_ediv, Int.natCast_pow, Int.toNat_of_nonneg h0]
    rfl
  have hle : x.toNat / 2 ^ j ≤ x.toNat := Nat.div_le_self _ _
  rw [e]
  generalize x.toNat / 2 ^ j = y at *
  have h := u8_and (y : Int) 1 (by omega) (by omega) (by omega) (by omega)
  rw [h]
  rw [show ((1 : Int).toNat) = 1 from rfl, Nat.and_one_is_mod]
  rfl

set_option maxHeartbeats 1000000 in
theorem refHas_any (key : List Int) (hx : OctL key) (hm : key.length ≤ 140737488355328) (k : Int) (l : List Int) (a : Option Addr) (c : Nat) (w : World) (hv : Octs w (.slice a l.length c) l) :
    Calls Try.prog 14 #[.agg #[.int .i64 k, .slice a l.length c], .string (strOfNums key)] w fun e w' => e = .returned (.tuple #[.bool (mayB k l.length && hasF (hashL key) k.toNat l.length l), .int .i64 (chkE k l.length)]) ∧ Below w.heap.size w w' := by
  obtain ⟨n, hn⟩ : ∃ n, n = l.length := ⟨_, rfl⟩
  rw [← hn] at hv ⊢
  have HV : Hid (Octs w (.slice a n c) l) := hv
  have HL : Hid (l.length = n) := hn.symm
  clear hv hn
  have HM : Hid (∀ w : World, Calls Try.prog 31 #[.agg #[.int .i64 k, .slice a n c]] w fun e w' => e = .returned (.int .i64 (chkE k n)) ∧ w' = w.alloc (.cells #[.int .i64 k, .slice a n c] 25)) := fun w => check_any k a n c w
  have HE : chkE k n = if mayB k n then 0 else 9 := rfl
  cases hmay : mayB k n
  · rw [hmay] at HE
    simp at HE
    rw [HE] at HM ⊢
    go_enter Try.func14, Try.ntmps14
    go_wp2_with fail
    refine (HM.out _).mono ?_
    rintro e w1 ⟨rfl, rfl⟩
    go_wp2
    go_ret2
    exact ⟨rfl, up_al (up_alloc _ _) _⟩
  · rw [hmay] at HE
    simp at HE
    rw [HE] at HM ⊢
    have hk1 : 1 ≤ k ∧ k ≤ 8 ∧ 1 ≤ n ∧ n ≤ 8192 := by
      unfold mayB at hmay
      simp at hmay
      exact hmay
    obtain ⟨K, rfl⟩ : ∃ K : Nat, k = (K : Int) := ⟨k.toNat, by omega⟩
    obtain ⟨hk1, hk2, hn1, hn2⟩ := hk1
    have HP : Hid (∀ (i : Nat) (w : World), i ≤ 7 → Calls Try.prog 29 #[.string (strOfNums key), .int .i64 i, .int .i64 (8 * (n : Int))] w fun e w' => e = .returned (.int .i64 (plc (hashL key) i n)) ∧ w' = w) := fun i w hi => place_any key hx hm i hi n hn1 hn2 w
    generalize hashL key = h at *
    simp only [Int.toNat_natCast, Bool.true_and]
    go_enter Try.func14, Try.ntmps14
    go_wp2_with fail
    refine (HM.out _).mono ?_
    rintro e w1 ⟨rfl, rfl⟩
    go_wp2_with fail
    have U0 : Below w.heap.size w ((w.alloc (.cells #[.int .i64 K, .slice a n c] 25)).alloc (.cells #[.int .i64 K, .slice a n c] 25)) := up_al (up_alloc _ _) _
    have B0 : ((w.alloc (.cells #[.int .i64 K, .slice a n c] 25)).alloc (.cells #[.int .i64 K, .slice a n c] 25)).heap[w.heap.size]? = some (.cells #[.int .i64 K, .slice a n c] 25) := blk_al (blk_new _ _) _
    generalize (w.alloc (.cells #[.int .i64 K, .slice a n c] 25)).alloc (.cells #[.int .i64 K, .slice a n c] 25) = W0 at *
    go_loopw [6] (fun i wr => ∃ j : Nat, j ≤ K ∧ i = .int .i64 j ∧ Hid (∀ i, i < j → setB l (plc h i n) = true) ∧ Hid (wr.heap[w.heap.size]? = some (.cells #[.int .i64 K, .slice a n c] 25)) ∧ Hid (Below w.heap.size w wr)) (fun i _ => K - (intOf i).toNat)
    case atStart => exact ⟨0, Nat.zero_le _, rfl, (fun i hi => absurd hi (by omega)), B0, U0⟩
    case round =>
      clear B0 U0 HM
      obtain ⟨j, hj, rfl, HS, HB, HU⟩ := hrel
      have q1 := blk_cell HB.out 0 _ rfl
      have q2 := blk_cell HB.out 1 _ rfl
      by_cases hlt : j < K
      · have hlt' : (j : Int) < (K : Int) := by omega
        have hV2 : Octs wr (.slice a n c) l := HV.out.up HU.out
        have hpl : plc h j n / 8 < n := plc_lt hn1
        have hSB : setB l (plc h j n) = !(((l.getD (plc h j n / 8) 0).toNat &&& bitN (plc h j n)) == 0) := rfl
        have HPj : Hid (∀ (w : World), Calls Try.prog 29 #[.string (strOfNums key), .int .i64 j, .int .i64 (8 * (n : Int))] w fun e w' => e = .returned (.int .i64 (plc h j n)) ∧ w' = w) := fun w => HP.out j w (by omega)
        obtain ⟨p, hp⟩ : ∃ p, plc h j n = p := ⟨_, rfl⟩
        have HPI : Hid (plc h j n = p) := hp
        rw [hp] at hpl hSB HPj
        clear hp
        obtain ⟨b, off, cap, e, hcap, hmx, hcell⟩ := hV2.at (p / 8) (by rw [HL.out]; exact hpl)
        simp at e
        obtain ⟨x0, x1⟩ := hV2.oct (p / 8) (by rw [HL.out]; exact hpl)
        obtain ⟨rfl, hh, rfl⟩ := e
        clear hh
        generalize l.getD (p / 8) 0 = x at *
        have HSB : Hid (setB l p = !((x.toNat &&& bitN p) == 0)) := hSB
        have hpl' : (p : Int) / 8 < (n : Int) := by omega
        have ea := bit_low x (p % 8) x0 x1
        have HSD : Hid ((x.toNat / 2 ^ (p % 8) % 2 = 0) ↔ (x.toNat &&& bitN p = 0)) := bit_side x.toNat (p % 8) (by omega) (Nat.mod_lt _ (by decide))
        generalize x.toNat / 2 ^ (p % 8) % 2 = y at *
        clear hSB hV2
        by_cases hy : y = 0
        · subst hy
          have HF : Hid (hasF h K n l = false) := hasF_false hlt (by rw [HPI.out, HSB.out, HSD.out.1 rfl]; rfl)
          go_wp2_with fail
          refine (HPj.out _).mono ?_
          rintro e w1 ⟨rfl, rfl⟩
          go_wp2
          go_ret2
          refine ⟨?_, HU.out⟩
          rw [HF.out]
          rfl
        · have hy' : ((y : Int) == 0) = false := by simp; omega
          go_wp2_with fail
          refine (HPj.out _).mono ?_
          rintro e w1 ⟨rfl, rfl⟩
          go_wp2
          refine ⟨⟨j + 1, by omega, by go_num, ?_, HB, HU⟩, by simp [intOf]; omega⟩
          intro i hi
          by_cases hji : i = j
          · subst hji
            rw [HPI.out, HSB.out]
            have : ¬ (x.toNat &&& bitN p) = 0 := fun e => hy (HSD.out.2 e)
            simp [this]
          · exact HS.out i (by omega)
      · have hlt' : ¬ (j : Int) < (K : Int) := by omega
        obtain rfl : j = K := by omega
        go_wp2
        go_ret2
        refine ⟨?_, HU.out⟩
        rw [hasF_true HS.out]
        rfl
end Go.Proofs.Ytbhlphhgibikeaa
