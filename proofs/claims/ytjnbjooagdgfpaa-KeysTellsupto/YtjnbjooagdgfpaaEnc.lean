/- keys.Encode returns, for any parts in a slice (each text of at most 2^40 octets), the octets and the error that the plain function 'encodeOf' says. -/
import Derived.Test.YtjnbjooagdgfpaaCheck
import Derived.Test.YtjnbjooagdgfpaaAdd
namespace Go.Proofs.Ytjnbjooagdgfpaa
open Go.RowKit
set_option linter.unusedVariables false

/-- A part's octets. -/
def encP (p : Bool × Int × List Int) : List Int := if p.1 then 17 :: num8 (p.2.1 + 9223372036854775808) else 34 :: (esc p.2.2 ++ [0, 1])

/-- All octets of parts. -/
def encL (l : List (Bool × Int × List Int)) : List Int := l.flatMap encP

theorem encL_snoc (l : List (Bool × Int × List Int)) (p : Bool × Int × List Int) : encL (l ++ [p]) = encL l ++ encP p := by simp [encL]

theorem encP_octet (p : Bool × Int × List Int) (hp : ∀ x ∈ p.2.2, 0 ≤ x ∧ x ≤ 255) : ∀ x ∈ encP p, 0 ≤ x ∧ x ≤ 255 := by
  intro x hx
  unfold encP at hx
  split at hx
  · rcases List.mem_cons.1 hx with h | h
    · omega
    · exact num8_octet _ x h
  · rcases List.mem_cons.1 hx with h | h
    · omega
    · rcases List.mem_append.1 h with h | h
      · exact esc_octet _ hp x h
      · simp at h; omega

theorem encL_octet (l : List (Bool × Int × List Int)) (hl : ∀ p ∈ l, Pwf p) : ∀ x ∈ encL l, 0 ≤ x ∧ x ≤ 255 := by
  intro x hx
  obtain ⟨p, hp, hx⟩ := List.mem_flatMap.1 hx
  exact encP_octet p (hl p hp).2.1 x hx

theorem encP_len (p : Bool × Int × List Int) (h : p.2.2.length ≤ 1099511627776) : (encP p).length ≤ 2199023255600 := by
  unfold encP
  split
  · simp [num8]
  · have := esc_len p.2.2
    simp
    omega

theorem encL_len : ∀ (l : List (Bool × Int × List Int)), (∀ p ∈ l, p.2.2.length ≤ 1099511627776) → (encL l).length ≤ 2199023255600 * l.length
  | [], _ => by simp [encL]
  | p :: l, h => by
    have a := encP_len p (h p (by simp))
    have b := encL_len l (fun q hq => h q (by simp [hq]))
    have e : encL (p :: l) = encP p ++ encL l := by simp [encL]
    rw [e, List.length_append, List.length_cons]
    omega

def encodeOf (l : List (Bool × Int × List Int)) : List Int × Int := if checkOf l = 0 then (encL l, 0) else ([], checkOf l)

theorem check_eight {l : List (Bool × Int × List Int)} (h : checkOf l = 0) : l.length ≤ 8 ∧ l.all okP = true := by
  unfold checkOf at h
  split at h
  · cases h
  · split at h
    · exact ⟨by omega, by assumption⟩
    · cases h

set_option maxHeartbeats 1000000 in
theorem encode_any (l : List (Bool × Int × List Int)) (v : Value) (w : World) (hv : Parts w v l) (hlen : ∀ p ∈ l, p.2.2.length ≤ 1099511627776) :
    Calls Try.prog 10 #[v] w fun e w' => e = .returned (.tuple #[.string (strOfNums (encodeOf l).1), .int .i64 (encodeOf l).2]) ∧ Below w.heap.size w w' := by
  have HV : Hid (Parts w v l) := hv
  obtain ⟨_, a, cap, rfl, hcap, hcm, h3⟩ := hv
  clear h3
  unfold maxLen at hcm
  by_cases hc : checkOf l = 0
  · obtain ⟨h8, _⟩ := check_eight hc
    have HE : Hid (encodeOf l = (encL l, 0)) := by unfold Hid encodeOf; rw [if_pos hc]
    have HC : Hid (checkOf l = 0) := hc
    clear hc
    go_enter Try.func10, Try.ntmps10
    go_wp2_with fail
    refine (check_any l _ _ HV.out).mono ?_
    rintro e w1 ⟨rfl, hb1⟩
    rw [HC.out]
    go_wp2
    go_loopw [5, 15] (fun vb i wr => ∃ k : Nat, k ≤ l.length ∧ i = .int .i64 k ∧ Hid (OwnB wr w.heap.size vb (encL (l.take k))) ∧ Hid (Below w.heap.size w wr)) (fun _ i _ => l.length - (intOf i).toNat)
    case atStart => exact ⟨0, Nat.zero_le _, rfl, OwnB.nil _ _, hb1⟩
    case round =>
      obtain ⟨k, hk, rfl, HW, HB⟩ := hrel
      by_cases hlt : k < l.length
      · obtain ⟨b, off, cap', e, _, _, c0, c1, c2⟩ := (HV.out.up HB.out).at k hlt
        simp at e
        obtain ⟨rfl, rfl⟩ := e
        have hlt' : (k : Int) < (l.length : Int) := by omega
        have HT : Hid (l.take (k + 1) = l.take k ++ [l.getD k (false, 0, [])]) := take_snoc l k _ hlt
        have hm : l.getD k (false, 0, []) ∈ l := by simp [List.getD, hlt]
        have hP := HV.out.1 _ hm
        have hL := hlen _ hm
        have hel := encL_len (l.take k) (fun p hp => hlen p (List.mem_of_mem_take hp))
        have htl := List.length_take_le k l
        have hzr := HB.out.size
        clear hm
        generalize l.getD k (false, 0, []) = y at *
        obtain ⟨yb, yn, yt⟩ := y
        obtain ⟨⟨n0, n1⟩, hoct, _⟩ := hP
        simp only at c0 c1 c2 n0 n1 hoct hL
        have HO : Hid (∀ x ∈ yt, 0 ≤ x ∧ x ≤ 255) := hoct
        clear hoct
        have HW1 : Hid (OwnB (wr.alloc (.cells #[.bool yb, .int .i64 yn, .string (strOfNums yt)] 49)) w.heap.size u5 (encL (l.take k))) := World.ownsRow.alloc HW.out _
        have HB1 : Hid (Below w.heap.size w (wr.alloc (.cells #[.bool yb, .int .i64 yn, .string (strOfNums yt)] 49))) := up_al HB.out _
        have hz1 := HB1.out.size
        cases yb
        · go_wp2_with fail
          refine (addText_any yt HO.out hL _ _ w.heap.size _ hz1 ?_ HW1.out).mono ?_
          · omega
          rintro e w2 ⟨v2, rfl, ho2, hb2⟩
          have HB2 : Hid (Below w.heap.size w w2) := HB1.out.trans hb2
          have HW2 : Hid (OwnB w2 w.heap.size v2 (encL (l.take (k + 1)))) := by
            unfold Hid
            rw [HT.out, encL_snoc]
            exact ho2
          clear ho2 hb2 HW HB HW1 HB1 HT
          go_wp2
          exact ⟨⟨k + 1, by omega, by go_num, HW2, HB2⟩, by simp [intOf]; omega⟩
        · go_wp2_with fail
          refine (addNumber_any yn n0 n1 _ _ w.heap.size _ hz1 ?_ HW1.out).mono ?_
          · omega
          rintro e w2 ⟨v2, rfl, ho2, hb2⟩
          have HB2 : Hid (Below w.heap.size w w2) := HB1.out.trans hb2
          have HW2 : Hid (OwnB w2 w.heap.size v2 (encL (l.take (k + 1)))) := by
            unfold Hid
            rw [HT.out, encL_snoc]
            exact ho2
          clear ho2 hb2 HW HB HW1 HB1 HT
          go_wp2
          exact ⟨⟨k + 1, by omega, by go_num, HW2, HB2⟩, by simp [intOf]; omega⟩
      · obtain rfl : k = l.length := by omega
        rw [List.take_length] at HW
        have kc := run_convert_octs (encL l) _ _ (Octs.own HW.out (encL_octet l HV.out.1))
        go_wp2
        go_ret2
        rw [HE.out]
        exact ⟨rfl, HB.out⟩
  · have HE : Hid (encodeOf l = ([], checkOf l)) := by unfold Hid encodeOf; rw [if_neg hc]
    have cb : (checkOf l == 0) = false := by simp [hc]
    go_enter Try.func10, Try.ntmps10
    go_wp2_with fail
    refine (check_any l _ _ HV.out).mono ?_
    rintro e w1 ⟨rfl, hb1⟩
    go_wp2
    go_ret2
    rw [HE.out]
    exact ⟨rfl, hb1⟩
end Go.Proofs.Ytjnbjooagdgfpaa
