/- Of a number's octets: the first one tells how many there are; read octet by octet they are the number again; what is cut off ahead of its end is told to be short. Plain lists and numbers, no Go; the number fits uint64. -/
import Derived.Test.YtbknoplfjfnbcaaVGetAny
namespace Go.Proofs.Ytbknoplfjfnbcaa
open Go.RowKit
set_option linter.unusedVariables false

theorem all_cons {p : Int → Prop} {a : Int} {l : List Int} (h : p a) (hl : ∀ x ∈ l, p x) : ∀ x ∈ a :: l, p x := by
  intro x hx
  rcases List.mem_cons.1 hx with rfl | hx
  · exact h
  · exact hl x hx
theorem all_nil {p : Int → Prop} : ∀ x ∈ ([] : List Int), p x := by
  intro x hx
  cases hx

theorem told_of (f k lo hi : Int) (h0 : 0 ≤ f) (h1 : f ≤ 255) (hk : (lo = 0 ∧ hi = 127 ∧ k = 1) ∨ (lo = 128 ∧ hi = 191 ∧ k = 2) ∨ (lo = 192 ∧ hi = 223 ∧ k = 3) ∨ (lo = 224 ∧ hi = 239 ∧ k = 4) ∨ (lo = 240 ∧ hi = 247 ∧ k = 5) ∨ (lo = 248 ∧ hi = 251 ∧ k = 6) ∨ (lo = 252 ∧ hi = 253 ∧ k = 7) ∨ (lo = 254 ∧ hi = 254 ∧ k = 8) ∨ (lo = 255 ∧ hi = 255 ∧ k = 9)) (hl : lo ≤ f) (hh : f ≤ hi) : toldOf f = k := by
  rcases told_cases f h0 h1 with ⟨h, a, b⟩ | ⟨h, a, b⟩ | ⟨h, a, b⟩ | ⟨h, a, b⟩ | ⟨h, a, b⟩ | ⟨h, a, b⟩ | ⟨h, a, b⟩ | ⟨h, a, b⟩ | ⟨h, a, b⟩ <;> rw [h] <;> clear h <;> omega

/-- What is to be known of n's octets. -/
structure Form (n : Int) (l : List Int) : Prop where
  size : (l.length : Int) = sizeOf n
  octet : ∀ x ∈ l, 0 ≤ x ∧ x ≤ 255
  first : ∃ f r, l = f :: r ∧ toldOf f = sizeOf n ∧ acc (f - leadOf (sizeOf n)) r = n


theorem form1 (n : Int) (h0 : 0 ≤ n) (h1 : n ≤ 127) (hs : sizeOf n = 1) : Form n (octs n 1) := by
  refine ⟨by rw [hs]; rfl, ?_, n, [], rfl, ?_, ?_⟩
  · exact all_cons (by omega) (all_nil)
  · rw [hs]; exact told_of (n) 1 0 127 (by omega) (by omega) (by decide) (by omega) (by omega)
  · rw [hs, show leadOf 1 = 0 by decide +kernel]
    show (n - 0) = n
    rw [show n - 0 = n by omega]

theorem form2 (n : Int) (h0 : 128 ≤ n) (h1 : n ≤ 16383) (hs : sizeOf n = 2) : Form n (octs n 2) := by
  refine ⟨by rw [hs]; rfl, ?_, 128 + n / 256, [n % 256], rfl, ?_, ?_⟩
  · exact all_cons (by omega) (all_cons (by omega) (all_nil))
  · rw [hs]; exact told_of (128 + n / 256) 2 128 191 (by omega) (by omega) (by decide) (by omega) (by omega)
  · rw [hs, show leadOf 2 = 128 by decide +kernel]
    show ((128 + n / 256 - 128)) * 256 + n % 256 = n
    rw [show 128 + n / 256 - 128 = n / 256 by omega, show (n / 256) * 256 + n % 256 = n by omega]

theorem form3 (n : Int) (h0 : 16384 ≤ n) (h1 : n ≤ 2097151) (hs : sizeOf n = 3) : Form n (octs n 3) := by
  refine ⟨by rw [hs]; rfl, ?_, 192 + n / 65536, [n / 256 % 256, n % 256], rfl, ?_, ?_⟩
  · exact all_cons (by omega) (all_cons (by omega) (all_cons (by omega) (all_nil)))
  · rw [hs]; exact told_of (192 + n / 65536) 3 192 223 (by omega) (by omega) (by decide) (by omega) (by omega)
  · rw [hs, show leadOf 3 = 192 by decide +kernel]
    show (((192 + n / 65536 - 192)) * 256 + n / 256 % 256) * 256 + n % 256 = n
    rw [show 192 + n / 65536 - 192 = n / 65536 by omega, show (n / 65536) * 256 + n / 256 % 256 = n / 256 by omega, show (n / 256) * 256 + n % 256 = n by omega]

theorem form4 (n : Int) (h0 : 2097152 ≤ n) (h1 : n ≤ 268435455) (hs : sizeOf n = 4) : Form n (octs n 4) := by
  refine ⟨by rw [hs]; rfl, ?_, 224 + n / 16777216, [n / 65536 % 256, n / 256 % 256, n % 256], rfl, ?_, ?_⟩
  · exact all_cons (by omega) (all_cons (by omega) (all_cons (by omega) (all_cons (by omega) (all_nil))))
  · rw [hs]; exact told_of (224 + n / 16777216) 4 224 239 (by omega) (by omega) (by decide) (by omega) (by omega)
  · rw [hs, show leadOf 4 = 224 by decide +kernel]
    show ((((224 + n / 16777216 - 224)) * 256 + n / 65536 % 256) * 256 + n / 256 % 256) * 256 + n % 256 = n
    rw [show 224 + n / 16777216 - 224 = n / 16777216 by omega, show (n / 16777216) * 256 + n / 65536 % 256 = n / 65536 by omega, show (n / 65536) * 256 + n / 256 % 256 = n / 256 by omega, show (n / 256) * 256 + n % 256 = n by omega]

theorem form5 (n : Int) (h0 : 268435456 ≤ n) (h1 : n ≤ 34359738367) (hs : sizeOf n = 5) : Form n (octs n 5) := by
  refine ⟨by rw [hs]; rfl, ?_, 240 + n / 4294967296, [n / 16777216 % 256, n / 65536 % 256, n / 256 % 256, n % 256], rfl, ?_, ?_⟩
  · exact all_cons (by omega) (all_cons (by omega) (all_cons (by omega) (all_cons (by omega) (all_cons (by omega) (all_nil)))))
  · rw [hs]; exact told_of (240 + n / 4294967296) 5 240 247 (by omega) (by omega) (by decide) (by omega) (by omega)
  · rw [hs, show leadOf 5 = 240 by decide +kernel]
    show (((((240 + n / 4294967296 - 240)) * 256 + n / 16777216 % 256) * 256 + n / 65536 % 256) * 256 + n / 256 % 256) * 256 + n % 256 = n
    rw [show 240 + n / 4294967296 - 240 = n / 4294967296 by omega, show (n / 4294967296) * 256 + n / 16777216 % 256 = n / 16777216 by omega, show (n / 16777216) * 256 + n / 65536 % 256 = n / 65536 by omega, show (n / 65536) * 256 + n / 256 % 256 = n / 256 by omega, show (n / 256) * 256 + n % 256 = n by omega]

theorem form6 (n : Int) (h0 : 34359738368 ≤ n) (h1 : n ≤ 4398046511103) (hs : sizeOf n = 6) : Form n (octs n 6) := by
  refine ⟨by rw [hs]; rfl, ?_, 248 + n / 1099511627776, [n / 4294967296 % 256, n / 16777216 % 256, n / 65536 % 256, n / 256 % 256, n % 256], rfl, ?_, ?_⟩
  · exact all_cons (by omega) (all_cons (by omega) (all_cons (by omega) (all_cons (by omega) (all_cons (by omega) (all_cons (by omega) (all_nil))))))
  · rw [hs]; exact told_of (248 + n / 1099511627776) 6 248 251 (by omega) (by omega) (by decide) (by omega) (by omega)
  · rw [hs, show leadOf 6 = 248 by decide +kernel]
    show ((((((248 + n / 1099511627776 - 248)) * 256 + n / 4294967296 % 256) * 256 + n / 16777216 % 256) * 256 + n / 65536 % 256) * 256 + n / 256 % 256) * 256 + n % 256 = n
    rw [show 248 + n / 1099511627776 - 248 = n / 1099511627776 by omega, show (n / 1099511627776) * 256 + n / 4294967296 % 256 = n / 4294967296 by omega, show (n / 4294967296) * 256 + n / 16777216 % 256 = n / 16777216 by omega, show (n / 16777216) * 256 + n / 65536 % 256 = n / 65536 by omega, show (n / 65536) * 256 + n / 256 % 256 = n / 256 by omega, show (n / 256) * 256 + n % 256 = n by omega]

theorem form7 (n : Int) (h0 : 4398046511104 ≤ n) (h1 : n ≤ 562949953421311) (hs : sizeOf n = 7) : Form n (octs n 7) := by
  refine ⟨by rw [hs]; rfl, ?_, 252 + n / 281474976710656, [n / 1099511627776 % 256, n / 4294967296 % 256, n / 16777216 % 256, n / 65536 % 256, n / 256 % 256, n % 256], rfl, ?_, ?_⟩
  · exact all_cons (by omega) (all_cons (by omega) (all_cons (by omega) (all_cons (by omega) (all_cons (by omega) (all_cons (by omega) (all_cons (by omega) (all_nil)))))))
  · rw [hs]; exact told_of (252 + n / 281474976710656) 7 252 253 (by omega) (by omega) (by decide) (by omega) (by omega)
  · rw [hs, show leadOf 7 = 252 by decide +kernel]
    show (((((((252 + n / 281474976710656 - 252)) * 256 + n / 1099511627776 % 256) * 256 + n / 4294967296 % 256) * 256 + n / 16777216 % 256) * 256 + n / 65536 % 256) * 256 + n / 256 % 256) * 256 + n % 256 = n
    rw [show 252 + n / 281474976710656 - 252 = n / 281474976710656 by omega, show (n / 281474976710656) * 256 + n / 1099511627776 % 256 = n / 1099511627776 by omega, show (n / 1099511627776) * 256 + n / 4294967296 % 256 = n / 4294967296 by omega, show (n / 4294967296) * 256 + n / 16777216 % 256 = n / 16777216 by omega, show (n / 16777216) * 256 + n / 65536 % 256 = n / 65536 by omega, show (n / 65536) * 256 + n / 256 % 256 = n / 256 by omega, show (n / 256) * 256 + n % 256 = n by omega]

theorem form8 (n : Int) (h0 : 562949953421312 ≤ n) (h1 : n ≤ 72057594037927935) (hs : sizeOf n = 8) : Form n (octs n 8) := by
  refine ⟨by rw [hs]; rfl, ?_, 254 + n / 72057594037927936, [n / 281474976710656 % 256, n / 1099511627776 % 256, n / 4294967296 % 256, n / 16777216 % 256, n / 65536 % 256, n / 256 % 256, n % 256], rfl, ?_, ?_⟩
  · exact all_cons (by omega) (all_cons (by omega) (all_cons (by omega) (all_cons (by omega) (all_cons (by omega) (all_cons (by omega) (all_cons (by omega) (all_cons (by omega) (all_nil))))))))
  · rw [hs]; exact told_of (254 + n / 72057594037927936) 8 254 254 (by omega) (by omega) (by decide) (by omega) (by omega)
  · rw [hs, show leadOf 8 = 254 by decide +kernel]
    show ((((((((254 + n / 72057594037927936 - 254)) * 256 + n / 281474976710656 % 256) * 256 + n / 1099511627776 % 256) * 256 + n / 4294967296 % 256) * 256 + n / 16777216 % 256) * 256 + n / 65536 % 256) * 256 + n / 256 % 256) * 256 + n % 256 = n
    rw [show 254 + n / 72057594037927936 - 254 = n / 72057594037927936 by omega, show (n / 72057594037927936) * 256 + n / 281474976710656 % 256 = n / 281474976710656 by omega, show (n / 281474976710656) * 256 + n / 1099511627776 % 256 = n / 1099511627776 by omega, show (n / 1099511627776) * 256 + n / 4294967296 % 256 = n / 4294967296 by omega, show (n / 4294967296) * 256 + n / 16777216 % 256 = n / 16777216 by omega, show (n / 16777216) * 256 + n / 65536 % 256 = n / 65536 by omega, show (n / 65536) * 256 + n / 256 % 256 = n / 256 by omega, show (n / 256) * 256 + n % 256 = n by omega]

theorem form9 (n : Int) (h0 : 72057594037927936 ≤ n) (h1 : n ≤ 18446744073709551615) (hs : sizeOf n = 9) : Form n (octs n 9) := by
  refine ⟨by rw [hs]; rfl, ?_, 255, [n / 72057594037927936 % 256, n / 281474976710656 % 256, n / 1099511627776 % 256, n / 4294967296 % 256, n / 16777216 % 256, n / 65536 % 256, n / 256 % 256, n % 256], rfl, ?_, ?_⟩
  · exact all_cons (by omega) (all_cons (by omega) (all_cons (by omega) (all_cons (by omega) (all_cons (by omega) (all_cons (by omega) (all_cons (by omega) (all_cons (by omega) (all_cons (by omega) (all_nil)))))))))
  · rw [hs]; exact told_of (255) 9 255 255 (by omega) (by omega) (by decide) (by omega) (by omega)
  · rw [hs, show leadOf 9 = 255 by decide +kernel]
    show ((((((((((255 : Int) - 255)) * 256 + n / 72057594037927936 % 256) * 256 + n / 281474976710656 % 256) * 256 + n / 1099511627776 % 256) * 256 + n / 4294967296 % 256) * 256 + n / 16777216 % 256) * 256 + n / 65536 % 256) * 256 + n / 256 % 256) * 256 + n % 256 = n
    rw [show (255 : Int) - 255 = 0 by omega, show (0) * 256 + n / 72057594037927936 % 256 = n / 72057594037927936 by omega, show (n / 72057594037927936) * 256 + n / 281474976710656 % 256 = n / 281474976710656 by omega, show (n / 281474976710656) * 256 + n / 1099511627776 % 256 = n / 1099511627776 by omega, show (n / 1099511627776) * 256 + n / 4294967296 % 256 = n / 4294967296 by omega, show (n / 4294967296) * 256 + n / 16777216 % 256 = n / 16777216 by omega, show (n / 16777216) * 256 + n / 65536 % 256 = n / 65536 by omega, show (n / 65536) * 256 + n / 256 % 256 = n / 256 by omega, show (n / 256) * 256 + n % 256 = n by omega]

theorem octets_form (n : Int) (h0 : 0 ≤ n) (h1 : n ≤ 18446744073709551615) : Form n (octets n) := by
  rcases size_cases n h0 h1 with ⟨hs, ha, hb⟩ | ⟨hs, ha, hb⟩ | ⟨hs, ha, hb⟩ | ⟨hs, ha, hb⟩ | ⟨hs, ha, hb⟩ | ⟨hs, ha, hb⟩ | ⟨hs, ha, hb⟩ | ⟨hs, ha, hb⟩ | ⟨hs, ha, hb⟩
  · have e : octets n = octs n 1 := by unfold octets; rw [hs]; rfl
    rw [e]; exact form1 n ha hb hs
  · have e : octets n = octs n 2 := by unfold octets; rw [hs]; rfl
    rw [e]; exact form2 n ha hb hs
  · have e : octets n = octs n 3 := by unfold octets; rw [hs]; rfl
    rw [e]; exact form3 n ha hb hs
  · have e : octets n = octs n 4 := by unfold octets; rw [hs]; rfl
    rw [e]; exact form4 n ha hb hs
  · have e : octets n = octs n 5 := by unfold octets; rw [hs]; rfl
    rw [e]; exact form5 n ha hb hs
  · have e : octets n = octs n 6 := by unfold octets; rw [hs]; rfl
    rw [e]; exact form6 n ha hb hs
  · have e : octets n = octs n 7 := by unfold octets; rw [hs]; rfl
    rw [e]; exact form7 n ha hb hs
  · have e : octets n = octs n 8 := by unfold octets; rw [hs]; rfl
    rw [e]; exact form8 n ha hb hs
  · have e : octets n = octs n 9 := by unfold octets; rw [hs]; rfl
    rw [e]; exact form9 n ha hb hs

theorem getOf_cut (n : Int) (h0 : 0 ≤ n) (h1 : n ≤ 18446744073709551615) (j : Nat) (hj : j < (octets n).length) : getRet ((octets n).take j) = .tuple #[.int .u64 0, .int .i64 0, .int .i64 8] := by
  have F := octets_form n h0 h1
  obtain ⟨f, r, hl, ht, _⟩ := F.first
  have hs := F.size
  rw [hl] at hj hs ⊢
  cases j with
  | zero => rfl
  | succ i =>
    rw [List.take_succ_cons]
    apply getRet_short
    rw [ht, ← hs]
    simp only [List.length_cons] at hj ⊢
    have := List.length_take_le i r
    have : (r.take i).length ≤ i := List.length_take_le _ _
    omega

theorem getOf_back (n : Int) (h0 : 0 ≤ n) (h1 : n ≤ 18446744073709551615) (more : List Int) : getRet (octets n ++ more) = .tuple #[.int .u64 n, .int .i64 (sizeOf n), .int .i64 0] := by
  have F := octets_form n h0 h1
  obtain ⟨f, r, hl, ht, ha⟩ := F.first
  have hs := F.size
  rw [hl] at hs ⊢
  simp only [List.length_cons] at hs
  rw [List.cons_append]
  refine getRet_good f (r ++ more) (sizeOf n) n ht ?_ ?_ ?_
  · simp only [List.length_append]; omega
  · have e : (sizeOf n - 1).toNat = r.length := by omega
    rw [e, List.take_left]
    exact ha
  · omega
end Go.Proofs.Ytbknoplfjfnbcaa
