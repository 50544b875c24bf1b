/- keys.addNumber and keys.addText, for any number of type int and any text: what they append to octets of the call's own. -/
import Derived.Test.YtjnbjooagdgfpaaParts
namespace Go.Proofs.Ytjnbjooagdgfpaa
open Go.RowKit
set_option linter.unusedVariables false

/-- The eight octets of a number, the highest first. -/
def num8 (m : Int) : List Int := [m / 72057594037927936 % 256, m / 281474976710656 % 256, m / 1099511627776 % 256, m / 4294967296 % 256, m / 16777216 % 256, m / 65536 % 256, m / 256 % 256, m % 256]

theorem wrap_sign (n : Int) (h0 : -9223372036854775808 ≤ n) (h1 : n ≤ 9223372036854775807) : IntKind.u64.wrap (IntKind.u64.wrap n + 9223372036854775808) = n + 9223372036854775808 := by
  simp only [IntKind.wrap, IntKind.signed, IntKind.bits]
  simp
  omega

theorem num8_octet (m : Int) : ∀ x ∈ num8 m, 0 ≤ x ∧ x ≤ 255 := by
  intro x hx
  simp [num8] at hx
  omega

set_option maxHeartbeats 1000000 in
theorem addNumber_any (n : Int) (h0 : -9223372036854775808 ≤ n) (h1 : n ≤ 9223372036854775807) (l0 : List Int) (v : Value) (base : Nat) (w : World) (hb : base ≤ w.heap.size) (hl : l0.length ≤ 70368744177664) (hw : OwnB w base v l0) :
   Calls Try.prog 23 #[v, .int .i64 n] w fun e w' => ∃ v', e = .returned v' ∧ OwnB w' base v' (l0 ++ 17 :: num8 (n + 9223372036854775808)) ∧ Below base w w' := by
  have HW : Hid (OwnB w base v l0) := hw
  clear hw
  have hm := wrap_sign n h0 h1
  have p0 : 0 ≤ n + 9223372036854775808 := by omega
  have p1 : n + 9223372036854775808 ≤ 18446744073709551615 := by omega
  clear h0 h1
  go_enter Try.func23, Try.ntmps23
  go_wp2_with (at_builtin; refine wpList_append_lits _ rfl _ _ rfl base _ l0 rfl HW.out [17] 1 _ rfl rfl rfl ?c1 ?c2 ?c3 ?_)
  case c1 => decide
  case c2 => simp; omega
  case c3 => exact hb
  intro v0 w0 ho0 hb0
  have hz0 := hb0.size
  have HB0 : Hid (Below base w w0) := hb0
  have HW0 : Hid (OwnB w0 base v0 (l0 ++ [17])) := ho0
  clear ho0 HW hb0
  go_wp2_with fail
  clear hm
  generalize hmm : n + 9223372036854775808 = m at *
  refine wp_loop_rounds 9 ?_
  rw [rounds_succ]
  go_wp2_with (at_builtin; refine wpList_append_lits _ rfl _ _ rfl base _ (l0 ++ [17]) rfl HW0.out [m / 72057594037927936 % 256] 1 _ rfl rfl ?cs ?c1 ?c2 ?c3 ?_)
  case cs => first | rfl | (simp; omega) | (simp [IntKind.wrap, IntKind.signed, IntKind.bits]; omega) | (simp [IntKind.wrap, IntKind.signed, IntKind.bits])
  case c1 => simp; omega
  case c2 => simp; omega
  case c3 => omega
  intro v1 w1 ho1 hb1
  have hz1 := hb1.size
  have HB1 : Hid (Below base w w1) := HB0.out.trans hb1
  have HW1 : Hid (OwnB w1 base v1 (l0 ++ [17, m / 72057594037927936 % 256])) := by unfold Hid; simpa using ho1
  clear ho1 HW0 hb1 HB0
  go_wp2_with fail
  rw [rounds_succ]
  go_wp2_with (at_builtin; refine wpList_append_lits _ rfl _ _ rfl base _ (l0 ++ [17, m / 72057594037927936 % 256]) rfl HW1.out [m / 281474976710656 % 256] 1 _ rfl rfl ?cs ?c1 ?c2 ?c3 ?_)
  case cs => first | rfl | (simp; omega) | (simp [IntKind.wrap, IntKind.signed, IntKind.bits]; omega) | (simp [IntKind.wrap, IntKind.signed, IntKind.bits])
  case c1 => simp; omega
  case c2 => simp; omega
  case c3 => omega
  intro v2 w2 ho2 hb2
  have hz2 := hb2.size
  have HB2 : Hid (Below base w w2) := HB1.out.trans hb2
  have HW2 : Hid (OwnB w2 base v2 (l0 ++ [17, m / 72057594037927936 % 256, m / 281474976710656 % 256])) := by unfold Hid; simpa using ho2
  clear ho2 HW1 hb2 HB1
  go_wp2_with fail
  rw [rounds_succ]
  go_wp2_with (at_builtin; refine wpList_append_lits _ rfl _ _ rfl base _ (l0 ++ [17, m / 72057594037927936 % 256, m / 281474976710656 % 256]) rfl HW2.out [m / 1099511627776 % 256] 1 _ rfl rfl ?cs ?c1 ?c2 ?c3 ?_)
  case cs => first | rfl | (simp; omega) | (simp [IntKind.wrap, IntKind.signed, IntKind.bits]; omega) | (simp [IntKind.wrap, IntKind.signed, IntKind.bits])
  case c1 => simp; omega
  case c2 => simp; omega
  case c3 => omega
  intro v3 w3 ho3 hb3
  have hz3 := hb3.size
  have HB3 : Hid (Below base w w3) := HB2.out.trans hb3
  have HW3 : Hid (OwnB w3 base v3 (l0 ++ [17, m / 72057594037927936 % 256, m / 281474976710656 % 256, m / 1099511627776 % 256])) := by unfold Hid; simpa using ho3
  clear ho3 HW2 hb3 HB2
  go_wp2_with fail
  rw [rounds_succ]
  go_wp2_with (at_builtin; refine wpList_append_lits _ rfl _ _ rfl base _ (l0 ++ [17, m / 72057594037927936 % 256, m / 281474976710656 % 256, m / 1099511627776 % 256]) rfl HW3.out [m / 4294967296 % 256] 1 _ rfl rfl ?cs ?c1 ?c2 ?c3 ?_)
  case cs => first | rfl | (simp; omega) | (simp [IntKind.wrap, IntKind.signed, IntKind.bits]; omega) | (simp [IntKind.wrap, IntKind.signed, IntKind.bits])
  case c1 => simp; omega
  case c2 => simp; omega
  case c3 => omega
  intro v4 w4 ho4 hb4
  have hz4 := hb4.size
  have HB4 : Hid (Below base w w4) := HB3.out.trans hb4
  have HW4 : Hid (OwnB w4 base v4 (l0 ++ [17, m / 72057594037927936 % 256, m / 281474976710656 % 256, m / 1099511627776 % 256, m / 4294967296 % 256])) := by unfold Hid; simpa using ho4
  clear ho4 HW3 hb4 HB3
  go_wp2_with fail
  rw [rounds_succ]
  go_wp2_with (at_builtin; refine wpList_append_lits _ rfl _ _ rfl base _ (l0 ++ [17, m / 72057594037927936 % 256, m / 281474976710656 % 256, m / 1099511627776 % 256, m / 4294967296 % 256]) rfl HW4.out [m / 16777216 % 256] 1 _ rfl rfl ?cs ?c1 ?c2 ?c3 ?_)
  case cs => first | rfl | (simp; omega) | (simp [IntKind.wrap, IntKind.signed, IntKind.bits]; omega) | (simp [IntKind.wrap, IntKind.signed, IntKind.bits])
  case c1 => simp; omega
  case c2 => simp; omega
  case c3 => omega
  intro v5 w5 ho5 hb5
  have hz5 := hb5.size
  have HB5 : Hid (Below base w w5) := HB4.out.trans hb5
  have HW5 : Hid (OwnB w5 base v5 (l0 ++ [17, m / 72057594037927936 % 256, m / 281474976710656 % 256, m / 1099511627776 % 256, m / 4294967296 % 256, m / 16777216 % 256])) := by unfold Hid; simpa using ho5
  clear ho5 HW4 hb5 HB4
  go_wp2_with fail
  rw [rounds_succ]
  go_wp2_with (at_builtin; refine wpList_append_lits _ rfl _ _ rfl base _ (l0 ++ [17, m / 72057594037927936 % 256, m / 281474976710656 % 256, m / 1099511627776 % 256, m / 4294967296 % 256, m / 16777216 % 256]) rfl HW5.out [m / 65536 % 256] 1 _ rfl rfl ?cs ?c1 ?c2 ?c3 ?_)
  case cs => first | rfl | (simp; omega) | (simp [IntKind.wrap, IntKind.signed, IntKind.bits]; omega) | (simp [IntKind.wrap, IntKind.signed, IntKind.bits])
  case c1 => simp; omega
  case c2 => simp; omega
  case c3 => omega
  intro v6 w6 ho6 hb6
  have hz6 := hb6.size
  have HB6 : Hid (Below base w w6) := HB5.out.trans hb6
  have HW6 : Hid (OwnB w6 base v6 (l0 ++ [17, m / 72057594037927936 % 256, m / 281474976710656 % 256, m / 1099511627776 % 256, m / 4294967296 % 256, m / 16777216 % 256, m / 65536 % 256])) := by unfold Hid; simpa using ho6
  clear ho6 HW5 hb6 HB5
  go_wp2_with fail
  rw [rounds_succ]
  go_wp2_with (at_builtin; refine wpList_append_lits _ rfl _ _ rfl base _ (l0 ++ [17, m / 72057594037927936 % 256, m / 281474976710656 % 256, m / 1099511627776 % 256, m / 4294967296 % 256, m / 16777216 % 256, m / 65536 % 256]) rfl HW6.out [m / 256 % 256] 1 _ rfl rfl ?cs ?c1 ?c2 ?c3 ?_)
  case cs => first | rfl | (simp; omega) | (simp [IntKind.wrap, IntKind.signed, IntKind.bits]; omega) | (simp [IntKind.wrap, IntKind.signed, IntKind.bits])
  case c1 => simp; omega
  case c2 => simp; omega
  case c3 => omega
  intro v7 w7 ho7 hb7
  have hz7 := hb7.size
  have HB7 : Hid (Below base w w7) := HB6.out.trans hb7
  have HW7 : Hid (OwnB w7 base v7 (l0 ++ [17, m / 72057594037927936 % 256, m / 281474976710656 % 256, m / 1099511627776 % 256, m / 4294967296 % 256, m / 16777216 % 256, m / 65536 % 256, m / 256 % 256])) := by unfold Hid; simpa using ho7
  clear ho7 HW6 hb7 HB6
  go_wp2_with fail
  rw [rounds_succ]
  go_wp2_with (at_builtin; refine wpList_append_lits _ rfl _ _ rfl base _ (l0 ++ [17, m / 72057594037927936 % 256, m / 281474976710656 % 256, m / 1099511627776 % 256, m / 4294967296 % 256, m / 16777216 % 256, m / 65536 % 256, m / 256 % 256]) rfl HW7.out [m % 256] 1 _ rfl rfl ?cs ?c1 ?c2 ?c3 ?_)
  case cs => first | rfl | (simp; omega) | (simp [IntKind.wrap, IntKind.signed, IntKind.bits]; omega) | (simp [IntKind.wrap, IntKind.signed, IntKind.bits])
  case c1 => simp; omega
  case c2 => simp; omega
  case c3 => omega
  intro v8 w8 ho8 hb8
  have hz8 := hb8.size
  have HB8 : Hid (Below base w w8) := HB7.out.trans hb8
  have HW8 : Hid (OwnB w8 base v8 (l0 ++ [17, m / 72057594037927936 % 256, m / 281474976710656 % 256, m / 1099511627776 % 256, m / 4294967296 % 256, m / 16777216 % 256, m / 65536 % 256, m / 256 % 256, m % 256])) := by unfold Hid; simpa using ho8
  clear ho8 HW7 hb8 HB7
  go_wp2_with fail
  rw [rounds_succ]
  go_wp2
  go_ret
  refine ⟨_, rfl, ?_, HB8.out⟩
  subst hmm
  exact HW8.out

/-- A text's octets, each 0 followed by 255. -/
def esc : List Int → List Int
  | [] => []
  | x :: r => if x = 0 then 0 :: 255 :: esc r else x :: esc r

theorem esc_len : ∀ l : List Int, (esc l).length ≤ 2 * l.length
  | [] => by simp [esc]
  | x :: r => by
    have := esc_len r
    unfold esc
    split <;> simp <;> omega

theorem esc_append : ∀ (a b : List Int), esc (a ++ b) = esc a ++ esc b
  | [], b => by simp [esc]
  | x :: r, b => by
    rw [List.cons_append, esc, esc_append r b, esc]
    split <;> simp

theorem esc_octet : ∀ l : List Int, (∀ x ∈ l, 0 ≤ x ∧ x ≤ 255) → ∀ x ∈ esc l, 0 ≤ x ∧ x ≤ 255
  | [], _, x, h => by simp [esc] at h
  | y :: r, hy, x, h => by
    have ih := esc_octet r (fun z hz => hy z (by simp [hz])) x
    have h0 := hy y (by simp)
    unfold esc at h
    split at h
    · simp at h
      rcases h with h | h | h
      · omega
      · omega
      · exact ih h
    · simp at h
      rcases h with h | h
      · omega
      · exact ih h

theorem str_size (l : List Int) : (strOfNums l).size = l.length := strOfNums_size l
theorem str_at (l : List Int) (hl : ∀ x ∈ l, 0 ≤ x ∧ x ≤ 255) (k : Nat) (h : k < (strOfNums l).size) : (((strOfNums l)[k]'h).toNat : Int) = l.getD k 0 := by
  have hk : k < l.length := by rw [str_size] at h; exact h
  have e : (strOfNums l)[k]'h = UInt8.ofNat (l[k]).toNat := by
    show (strOfNums l).data[k]'_ = _
    simp [strOfNums]
  have hb := hl l[k] (List.getElem_mem hk)
  rw [e]
  simp [List.getD, hk]
  omega

set_option maxHeartbeats 1000000 in
theorem addText_any (t : List Int) (ht : ∀ x ∈ t, 0 ≤ x ∧ x ≤ 255) (hlt : t.length ≤ 1099511627776) (l0 : List Int) (v : Value) (base : Nat) (w : World) (hb : base ≤ w.heap.size) (hl : l0.length ≤ 35184372088832) (hw : OwnB w base v l0) :
   Calls Try.prog 24 #[v, .string (strOfNums t)] w fun e w' => ∃ v', e = .returned v' ∧ OwnB w' base v' (l0 ++ 34 :: (esc t ++ [0, 1])) ∧ Below base w w' := by
  have HW : Hid (OwnB w base v l0) := hw
  clear hw
  have hsz := str_size t
  go_enter Try.func24, Try.ntmps24
  go_wp2_with (at_builtin; refine wpList_append_lits _ rfl _ _ rfl base _ l0 rfl HW.out [34] 1 _ rfl rfl rfl ?c1 ?c2 ?c3 ?_)
  case c1 => decide
  case c2 => simp; omega
  case c3 => exact hb
  intro v0 w0 ho0 hb0
  have hz0 := hb0.size
  have HB0 : Hid (Below base w w0) := hb0
  have HW0 : Hid (OwnB w0 base v0 (l0 ++ [34])) := ho0
  clear ho0 HW hb0
  go_wp2
  go_loopw [0, 5] (fun vb i wr => ∃ k : Nat, k ≤ t.length ∧ i = .int .i64 k ∧ Hid (OwnB wr base vb (l0 ++ 34 :: esc (t.take k))) ∧ Hid (Below base w wr)) (fun _ i _ => t.length - (intOf i).toNat)
  case atStart => exact ⟨0, Nat.zero_le _, rfl, HW0, HB0⟩
  case round =>
    obtain ⟨k, hk, rfl, HW, HB⟩ := hrel
    by_cases hkl : k < t.length
    · have hks : k < (strOfNums t).size := by omega
      have hy := str_at t ht k hks
      have hyb : 0 ≤ t.getD k 0 ∧ t.getD k 0 ≤ 255 := ht _ (by simp [List.getD, hkl])
      have HT : Hid (t.take (k + 1) = t.take k ++ [t.getD k 0]) := take_snoc t k 0 hkl
      have hel := esc_len (t.take k)
      have htl := List.length_take_le k t
      have hzr := HB.out.size
      generalize t.getD k 0 = y at *
      by_cases c : y = 0
      · subst c
        go_wp2_with (at_builtin; refine wpList_append_lits _ rfl _ _ rfl base _ (l0 ++ 34 :: esc (t.take k)) rfl HW.out [0] 1 _ rfl rfl ?cs ?c1 ?c2 ?c3 ?_)
        case cs => rfl
        case c1 => decide
        case c2 => simp; omega
        case c3 => omega
        intro v1 w1 ho1 hb1
        have hz1 := hb1.size
        have HB1 : Hid (Below base w w1) := HB.out.trans hb1
        have HW1 : Hid (OwnB w1 base v1 (l0 ++ 34 :: (esc (t.take k) ++ [0]))) := by unfold Hid; simpa using ho1
        clear ho1 HW hb1 HB
        go_wp2_with (at_builtin; refine wpList_append_lits _ rfl _ _ rfl base _ (l0 ++ 34 :: (esc (t.take k) ++ [0])) rfl HW1.out [255] 1 _ rfl rfl ?cs ?c1 ?c2 ?c3 ?_)
        case cs => rfl
        case c1 => decide
        case c2 => simp; omega
        case c3 => omega
        intro v2 w2 ho2 hb2
        have HB2 : Hid (Below base w w2) := HB1.out.trans hb2
        have HW2 : Hid (OwnB w2 base v2 (l0 ++ 34 :: esc (t.take (k + 1)))) := by
          unfold Hid
          rw [HT.out, esc_append]
          simpa [esc] using ho2
        clear ho2 HW1 hb2 HB1
        go_wp2
        exact ⟨⟨k + 1, by omega, by go_num, HW2, HB2⟩, by simp [intOf]; omega⟩
      · have cb : (y == 0) = false := by simp [c]
        go_wp2_with (at_builtin; refine wpList_append_lits _ rfl _ _ rfl base _ (l0 ++ 34 :: esc (t.take k)) rfl HW.out [y] 1 _ rfl rfl ?cs ?c1 ?c2 ?c3 ?_)
        case cs => rfl
        case c1 => simp; omega
        case c2 => simp; omega
        case c3 => omega
        intro v1 w1 ho1 hb1
        have hz1 := hb1.size
        have HB1 : Hid (Below base w w1) := HB.out.trans hb1
        have HW1 : Hid (OwnB w1 base v1 (l0 ++ 34 :: esc (t.take (k + 1)))) := by
          unfold Hid
          rw [HT.out, esc_append]
          simpa [esc, c] using ho1
        clear ho1 HW hb1 HB
        go_wp2
        exact ⟨⟨k + 1, by omega, by go_num, HW1, HB1⟩, by simp [intOf]; omega⟩
    · obtain rfl : k = t.length := by omega
      rw [List.take_length] at HW
      have hel := esc_len t
      have hzr := HB.out.size
      go_wp2_with (at_builtin; refine wpList_append_lits _ rfl _ _ rfl base _ (l0 ++ 34 :: esc t) rfl HW.out [0, 1] 2 _ rfl rfl ?cs ?c1 ?c2 ?c3 ?_)
      case cs => rfl
      case c1 => decide
      case c2 => simp; omega
      case c3 => omega
      intro v1 w1 ho1 hb1
      have HB1 : Hid (Below base w w1) := HB.out.trans hb1
      have HW1 : Hid (OwnB w1 base v1 (l0 ++ 34 :: (esc t ++ [0, 1]))) := by unfold Hid; simpa using ho1
      go_wp2
      go_ret
      exact ⟨_, rfl, HW1.out, HB1.out⟩
end Go.Proofs.Ytjnbjooagdgfpaa
