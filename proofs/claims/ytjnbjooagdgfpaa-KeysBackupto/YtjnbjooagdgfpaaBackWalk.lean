/- The law KeysBack, walked: for any slice of parts and any text, of bulk at most 2^20, the Go function returns true and changes nothing that was there. -/
import Derived.Test.YtjnbjooagdgfpaaBackMath
namespace Go.Proofs.Ytjnbjooagdgfpaa
open Go.RowKit
set_option linter.unusedVariables false

set_option maxHeartbeats 4000000 in
theorem back_upto (l : List (Bool × Int × List Int)) (v : Value) {w : World} (hv : Parts w v l) (hl : l.length ≤ 1048576) (hlt : ∀ p ∈ l, p.2.2.length ≤ 1048576) (s : List Int) (hs : ∀ x ∈ s, 0 ≤ x ∧ x ≤ 255) (hm : s.length ≤ 1048576) :
    Calls Try.prog 5 #[v, .string (strOfNums s)] w fun e w' => e = .returned (.bool true) ∧ Below w.heap.size w w' := by
  have HV : Hid (Parts w v l) := hv
  have HS : Hid (∀ x ∈ s, 0 ≤ x ∧ x ≤ 255) := hs
  have HLT : Hid (∀ p ∈ l, p.2.2.length ≤ 1048576) := hlt
  have HWF : Hid (∀ p ∈ (decodeOf s).1, Pwf p) := decoded_wf s hs (by omega)
  clear hv hs hlt
  go_enter Try.func5, Try.ntmps5
  go_wp2_with fail
  refine (alive_any _).mono ?_
  rintro e w1 ⟨rfl, hb1⟩
  have U1 : Hid (Below w.heap.size w w1) := hb1
  clear hb1
  go_wp2_with fail
  refine (of_any l _ _ (HV.out.up U1.out) (by omega)).mono ?_
  rintro e w2 ⟨x, rfl, ho2, hb2⟩
  have U2 : Hid (Below w.heap.size w w2) := up_trans U1.out hb2
  have HX : Hid (Parts w2 x l) := Parts.own ho2 HV.out.1
  clear ho2 hb2 U1
  go_wp2_with fail
  refine (encode_any l _ _ HX.out (fun p hp => by have := HLT.out p hp; omega)).mono ?_
  rintro e w3 ⟨rfl, hb3⟩
  have U3 : Hid (Below w.heap.size w w3) := up_trans U2.out hb3
  clear hb3 U2 HX
  by_cases c : checkOf l = 0
  · have HE : Hid (encodeOf l = (encL l, 0)) := by unfold Hid encodeOf; rw [if_pos c]
    have HD : Hid (decodeOf (encL l) = (l, 0)) := decode_enc l HV.out.1 c
    have HO : Hid (∀ y ∈ encL l, 0 ≤ y ∧ y ≤ 255) := encL_octet l HV.out.1
    have h8 := (check_eight c).1
    have hlen := encL_small 1048576 l HLT.out
    have hlen2 : (encL l).length ≤ 1099511627776 := by
      have : (2 * 1048576 + 9) * l.length ≤ (2 * 1048576 + 9) * 8 := Nat.mul_le_mul_left _ h8
      omega
    rw [HE.out]
    clear c hlen
    go_wp2_with fail
    refine (num_any _ _).mono ?_
    rintro e w4 ⟨rfl, rfl⟩
    go_wp2_with fail
    refine (decode_any (encL l) HO.out hlen2 _).mono ?_
    rw [HD.out]
    rintro e w5 ⟨vl, rfl, ho5, hb5⟩
    have U5 : Hid (Below w.heap.size w w5) := up_trans U3.out hb5
    have HL : Hid (Parts w5 vl l) := Parts.own ho5 HV.out.1
    clear ho5 hb5 U3
    go_wp2_with fail
    refine (num_any _ _).mono ?_
    rintro e w6 ⟨rfl, rfl⟩
    go_wp2_with fail
    refine (same_one l _ _ _ HL.out (HV.out.up U5.out)).mono ?_
    rintro e w6' ⟨rfl, d6, rfl⟩
    have U6 : Hid (Below w.heap.size w (w6.drewN d6)) := up_trans U5.out (up_drewN _ _)
    clear HL U5
    have hcs : Hid ((decodeOf s).2 = 0 → checkOf (decodeOf s).1 = 0 ∧ encL (decodeOf s).1 = s ∧ ∀ p ∈ (decodeOf s).1, p.2.2.length ≤ s.length) := decode_back s HS.out
    go_wp2_with fail
    refine (decode_any s HS.out (by omega) _).mono ?_
    rintro e w7 ⟨vy, rfl, ho7, hb7⟩
    have U7 : Hid (Below w.heap.size w w7) := up_trans U6.out hb7
    have HY : Hid (Parts w7 vy (decodeOf s).1) := Parts.own ho7 HWF.out
    clear ho7 hb7
    by_cases c7 : (decodeOf s).2 = 0
    · obtain ⟨k1, k2, k3⟩ := hcs.out c7
      rw [c7]
      go_wp2_with fail
      refine (num_any _ _).mono ?_
      rintro e w8 ⟨rfl, rfl⟩
      have HE : Hid (encodeOf (decodeOf s).1 = (s, 0)) := by unfold Hid encodeOf; rw [if_pos k1, k2]
      have HK : Hid (∀ p ∈ (decodeOf s).1, p.2.2.length ≤ 1099511627776) := fun p hp => by have := k3 p hp; omega
      clear k1 k2 k3 hcs c7
      go_wp2_with fail
      refine (encode_any _ _ _ HY.out HK.out).mono ?_
      rintro e w9 ⟨rfl, hb9⟩
      rw [HE.out]
      go_wp2_with fail
      refine (num_any _ _).mono ?_
      rintro e w10 ⟨rfl, rfl⟩
      go_wp2
      go_ret
      exact ⟨rfl, up_trans U7.out hb9⟩
    · have hn := decode_bad s c7
      have cb : ((decodeOf s).2 == 0) = false := by simp [c7]
      obtain ⟨_, ad, cap, rfl, _, _, _⟩ := HY.out
      rw [hn]
      generalize (decodeOf s).2 = er at *
      go_wp2_with fail
      refine (num_any _ _).mono ?_
      rintro e w8 ⟨rfl, rfl⟩
      go_wp2
      go_ret
      exact ⟨rfl, U7.out⟩
  · have HE : Hid (encodeOf l = ([], checkOf l)) := by unfold Hid encodeOf; rw [if_neg c]
    have cb : (checkOf l == 0) = false := by simp [c]
    rw [HE.out]
    go_wp2_with fail
    refine (num_any _ _).mono ?_
    rintro e w4 ⟨rfl, rfl⟩
    have hcs : Hid ((decodeOf s).2 = 0 → checkOf (decodeOf s).1 = 0 ∧ encL (decodeOf s).1 = s ∧ ∀ p ∈ (decodeOf s).1, p.2.2.length ≤ s.length) := decode_back s HS.out
    go_wp2_with fail
    refine (decode_any s HS.out (by omega) _).mono ?_
    rintro e w7 ⟨vy, rfl, ho7, hb7⟩
    have U7 : Hid (Below w.heap.size w w7) := up_trans U3.out hb7
    have HY : Hid (Parts w7 vy (decodeOf s).1) := Parts.own ho7 HWF.out
    clear ho7 hb7
    by_cases c7 : (decodeOf s).2 = 0
    · obtain ⟨k1, k2, k3⟩ := hcs.out c7
      rw [c7]
      go_wp2_with fail
      refine (num_any _ _).mono ?_
      rintro e w8 ⟨rfl, rfl⟩
      have HE : Hid (encodeOf (decodeOf s).1 = (s, 0)) := by unfold Hid encodeOf; rw [if_pos k1, k2]
      have HK : Hid (∀ p ∈ (decodeOf s).1, p.2.2.length ≤ 1099511627776) := fun p hp => by have := k3 p hp; omega
      clear k1 k2 k3 hcs c7
      go_wp2_with fail
      refine (encode_any _ _ _ HY.out HK.out).mono ?_
      rintro e w9 ⟨rfl, hb9⟩
      rw [HE.out]
      go_wp2_with fail
      refine (num_any _ _).mono ?_
      rintro e w10 ⟨rfl, rfl⟩
      go_wp2
      go_ret
      exact ⟨rfl, up_trans U7.out hb9⟩
    · have hn := decode_bad s c7
      have cb : ((decodeOf s).2 == 0) = false := by simp [c7]
      obtain ⟨_, ad, cap, rfl, _, _, _⟩ := HY.out
      rw [hn]
      generalize (decodeOf s).2 = er at *
      go_wp2_with fail
      refine (num_any _ _).mono ?_
      rintro e w8 ⟨rfl, rfl⟩
      go_wp2
      go_ret
      exact ⟨rfl, U7.out⟩
end Go.Proofs.Ytjnbjooagdgfpaa
