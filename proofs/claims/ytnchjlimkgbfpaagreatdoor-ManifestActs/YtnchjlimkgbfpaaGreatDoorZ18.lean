/- The texts VGetAny, VMath, FPut, FBlk, in this order. -/
import Derived.Test.YtnchjlimkgbfpaaGreatDoorVGet
import Derived.Test.YtnchjlimkgbfpaaGreatDoorZ03
import Derived.Test.YtnchjlimkgbfpaaGreatDoorZ02

namespace Go.Proofs.YtnchjlimkgbfpaaGreatDoor
open Go.RowKit
set_option linter.unusedVariables false
set_option maxRecDepth 20000
end Go.Proofs.YtnchjlimkgbfpaaGreatDoor

namespace Go.Proofs.YtnchjlimkgbfpaaGreatDoor
open Go.RowKit
set_option linter.unusedVariables false
set_option maxRecDepth 20000
theorem all_cons {p : Int → Prop} {a : Int} {l : List Int} (h : p a) (hl : ∀ x ∈ l, p x) : ∀ x ∈ a :: l, p x := by
  intro x hx
  rcases List.mem_cons.1 hx with rfl | hx
  · exact h
  · exact hl x hx
theorem all_nil {p : Int → Prop} : ∀ x ∈ ([] : List Int), p x := by
  intro x hx
  cases hx
theorem told_of (f k lo hi : Int) (h0 : 0 ≤ f) (h1 : f ≤ 255) (hk : (lo = 0 ∧ hi = 127 ∧ k = 1) ∨ (lo = 128 ∧ hi = 191 ∧ k = 2) ∨ (lo = 192 ∧ hi = 223 ∧ k = 3) ∨ (lo = 224 ∧ hi = 239 ∧ k = 4) ∨ (lo = 240 ∧ hi = 247 ∧ k = 5) ∨ (lo = 248 ∧ hi = 251 ∧ k = 6) ∨ (lo = 252 ∧ hi = 253 ∧ k = 7) ∨ (lo = 254 ∧ hi = 254 ∧ k = 8) ∨ (lo = 255 ∧ hi = 255 ∧ k = 9)) (hl : lo ≤ f) (hh : f ≤ hi) : toldOf f = k := by
  rcases told_cases f h0 h1 with ⟨h, a, b⟩ | ⟨h, a, b⟩ | ⟨h, a, b⟩ | ⟨h, a, b⟩ | ⟨h, a, b⟩ | ⟨h, a, b⟩ | ⟨h, a, b⟩ | ⟨h, a, b⟩ | ⟨h, a, b⟩ <;> rw [h] <;> clear h <;> omega
structure Form (n : Int) (l : List Int) : Prop where
  size : (l.length : Int) = sizeOf n
  octet : ∀ x ∈ l, 0 ≤ x ∧ x ≤ 255
  first : ∃ f r, l = f :: r ∧ toldOf f = sizeOf n ∧ acc (f - leadOf (sizeOf n)) r = n
theorem form1 (n : Int) (h0 : 0 ≤ n) (h1 : n ≤ 127) (hs : sizeOf n = 1) : Form n (octs n 1) := by
  refine ⟨by rw [hs]; rfl, ?_, n, [], rfl, ?_, ?_⟩
  · exact all_cons (by omega) (all_nil)
  · rw [hs]; exact told_of (n) 1 0 127 (by omega) (by omega) (by decide) (by omega) (by omega)
  · rw [hs, show leadOf 1 = 0 by decide +kernel]
    show (n - 0) = n
    rw [show n - 0 = n by omega]
theorem form2 (n : Int) (h0 : 128 ≤ n) (h1 : n ≤ 16383) (hs : sizeOf n = 2) : Form n (octs n 2) := by
  refine ⟨by rw [hs]; rfl, ?_, 128 + n / 256, [n % 256], rfl, ?_, ?_⟩
  · exact all_cons (by omega) (all_cons (by omega) (all_nil))
  · rw [hs]; exact told_of (128 + n / 256) 2 128 191 (by omega) (by omega) (by decide) (by omega) (by omega)
  · rw [hs, show leadOf 2 = 128 by decide +kernel]
    show ((128 + n / 256 - 128)) * 256 + n % 256 = n
    rw [show 128 + n / 256 - 128 = n / 256 by omega, show (n / 256) * 256 + n % 256 = n by omega]
theorem form3 (n : Int) (h0 : 16384 ≤ n) (h1 : n ≤ 2097151) (hs : sizeOf n = 3) : Form n (octs n 3) := by
  refine ⟨by rw [hs]; rfl, ?_, 192 + n / 65536, [n / 256 % 256, n % 256], rfl, ?_, ?_⟩
  · exact all_cons (by omega) (all_cons (by omega) (all_cons (by omega) (all_nil)))
  · rw [hs]; exact told_of (192 + n / 65536) 3 192 223 (by omega) (by omega) (by decide) (by omega) (by omega)
  · rw [hs, show leadOf 3 = 192 by decide +kernel]
    show (((192 + n / 65536 - 192)) * 256 + n / 256 % 256) * 256 + n % 256 = n
    rw [show 192 + n / 65536 - 192 = n / 65536 by omega, show (n / 65536) * 256 + n / 256 % 256 = n / 256 by omega, show (n / 256) * 256 + n % 256 = n by omega]
theorem form4 (n : Int) (h0 : 2097152 ≤ n) (h1 : n ≤ 268435455) (hs : sizeOf n = 4) : Form n (octs n 4) := by
  refine ⟨by rw [hs]; rfl, ?_, 224 + n / 16777216, [n / 65536 % 256, n / 256 % 256, n % 256], rfl, ?_, ?_⟩
  · exact all_cons (by omega) (all_cons (by omega) (all_cons (by omega) (all_cons (by omega) (all_nil))))
  · rw [hs]; exact told_of (224 + n / 16777216) 4 224 239 (by omega) (by omega) (by decide) (by omega) (by omega)
  · rw [hs, show leadOf 4 = 224 by decide +kernel]
    show ((((224 + n / 16777216 - 224)) * 256 + n / 65536 % 256) * 256 + n / 256 % 256) * 256 + n % 256 = n
    rw [show 224 + n / 16777216 - 224 = n / 16777216 by omega, show (n / 16777216) * 256 + n / 65536 % 256 = n / 65536 by omega, show (n / 65536) * 256 + n / 256 % 256 = n / 256 by omega, show (n / 256) * 256 + n % 256 = n by omega]
theorem form5 (n : Int) (h0 : 268435456 ≤ n) (h1 : n ≤ 34359738367) (hs : sizeOf n = 5) : Form n (octs n 5) := by
  refine ⟨by rw [hs]; rfl, ?_, 240 + n / 4294967296, [n / 16777216 % 256, n / 65536 % 256, n / 256 % 256, n % 256], rfl, ?_, ?_⟩
  · exact all_cons (by omega) (all_cons (by omega) (all_cons (by omega) (all_cons (by omega) (all_cons (by omega) (all_nil)))))
  · rw [hs]; exact told_of (240 + n / 4294967296) 5 240 247 (by omega) (by omega) (by decide) (by omega) (by omega)
  · rw [hs, show leadOf 5 = 240 by decide +kernel]
    show (((((240 + n / 4294967296 - 240)) * 256 + n / 16777216 % 256) * 256 + n / 65536 % 256) * 256 + n / 256 % 256) * 256 + n % 256 = n
    rw [show 240 + n / 4294967296 - 240 = n / 4294967296 by omega, show (n / 4294967296) * 256 + n / 16777216 % 256 = n / 16777216 by omega, show (n / 16777216) * 256 + n / 65536 % 256 = n / 65536 by omega, show (n / 65536) * 256 + n / 256 % 256 = n / 256 by omega, show (n / 256) * 256 + n % 256 = n by omega]
theorem form6 (n : Int) (h0 : 34359738368 ≤ n) (h1 : n ≤ 4398046511103) (hs : sizeOf n = 6) : Form n (octs n 6) := by
  refine ⟨by rw [hs]; rfl, ?_, 248 + n / 1099511627776, [n / 4294967296 % 256, n / 16777216 % 256, n / 65536 % 256, n / 256 % 256, n % 256], rfl, ?_, ?_⟩
  · exact all_cons (by omega) (all_cons (by omega) (all_cons (by omega) (all_cons (by omega) (all_cons (by omega) (all_cons (by omega) (all_nil))))))
  · rw [hs]; exact told_of (248 + n / 1099511627776) 6 248 251 (by omega) (by omega) (by decide) (by omega) (by omega)
  · rw [hs, show leadOf 6 = 248 by decide +kernel]
    show ((((((248 + n / 1099511627776 - 248)) * 256 + n / 4294967296 % 256) * 256 + n / 16777216 % 256) * 256 + n / 65536 % 256) * 256 + n / 256 % 256) * 256 + n % 256 = n
    rw [show 248 + n / 1099511627776 - 248 = n / 1099511627776 by omega, show (n / 1099511627776) * 256 + n / 4294967296 % 256 = n / 4294967296 by omega, show (n / 4294967296) * 256 + n / 16777216 % 256 = n / 16777216 by omega, show (n / 16777216) * 256 + n / 65536 % 256 = n / 65536 by omega, show (n / 65536) * 256 + n / 256 % 256 = n / 256 by omega, show (n / 256) * 256 + n % 256 = n by omega]
theorem form7 (n : Int) (h0 : 4398046511104 ≤ n) (h1 : n ≤ 562949953421311) (hs : sizeOf n = 7) : Form n (octs n 7) := by
  refine ⟨by rw [hs]; rfl, ?_, 252 + n / 281474976710656, [n / 1099511627776 % 256, n / 4294967296 % 256, n / 16777216 % 256, n / 65536 % 256, n / 256 % 256, n % 256], rfl, ?_, ?_⟩
  · exact all_cons (by omega) (all_cons (by omega) (all_cons (by omega) (all_cons (by omega) (all_cons (by omega) (all_cons (by omega) (all_cons (by omega) (all_nil)))))))
  · rw [hs]; exact told_of (252 + n / 281474976710656) 7 252 253 (by omega) (by omega) (by decide) (by omega) (by omega)
  · rw [hs, show leadOf 7 = 252 by decide +kernel]
    show (((((((252 + n / 281474976710656 - 252)) * 256 + n / 1099511627776 % 256) * 256 + n / 4294967296 % 256) * 256 + n / 16777216 % 256) * 256 + n / 65536 % 256) * 256 + n / 256 % 256) * 256 + n % 256 = n
    rw [show 252 + n / 281474976710656 - 252 = n / 281474976710656 by omega, show (n / 281474976710656) * 256 + n / 1099511627776 % 256 = n / 1099511627776 by omega, show (n / 1099511627776) * 256 + n / 4294967296 % 256 = n / 4294967296 by omega, show (n / 4294967296) * 256 + n / 16777216 % 256 = n / 16777216 by omega, show (n / 16777216) * 256 + n / 65536 % 256 = n / 65536 by omega, show (n / 65536) * 256 + n / 256 % 256 = n / 256 by omega, show (n / 256) * 256 + n % 256 = n by omega]
theorem form8 (n : Int) (h0 : 562949953421312 ≤ n) (h1 : n ≤ 72057594037927935) (hs : sizeOf n = 8) : Form n (octs n 8) := by
  refine ⟨by rw [hs]; rfl, ?_, 254 + n / 72057594037927936, [n / 281474976710656 % 256, n / 1099511627776 % 256, n / 4294967296 % 256, n / 16777216 % 256, n / 65536 % 256, n / 256 % 256, n % 256], rfl, ?_, ?_⟩
  · exact all_cons (by omega) (all_cons (by omega) (all_cons (by omega) (all_cons (by omega) (all_cons (by omega) (all_cons (by omega) (all_cons (by omega) (all_cons (by omega) (all_nil))))))))
  · rw [hs]; exact told_of (254 + n / 72057594037927936) 8 254 254 (by omega) (by omega) (by decide) (by omega) (by omega)
  · rw [hs, show leadOf 8 = 254 by decide +kernel]
    show ((((((((254 + n / 72057594037927936 - 254)) * 256 + n / 281474976710656 % 256) * 256 + n / 1099511627776 % 256) * 256 + n / 4294967296 % 256) * 256 + n / 16777216 % 256) * 256 + n / 65536 % 256) * 256 + n / 256 % 256) * 256 + n % 256 = n
    rw [show 254 + n / 72057594037927936 - 254 = n / 72057594037927936 by omega, show (n / 72057594037927936) * 256 + n / 281474976710656 % 256 = n / 281474976710656 by omega, show (n / 281474976710656) * 256 + n / 1099511627776 % 256 = n / 1099511627776 by omega, show (n / 1099511627776) * 256 + n / 4294967296 % 256 = n / 4294967296 by omega, show (n / 4294967296) * 256 + n / 16777216 % 256 = n / 16777216 by omega, show (n / 16777216) * 256 + n / 65536 % 256 = n / 65536 by omega, show (n / 65536) * 256 + n / 256 % 256 = n / 256 by omega, show (n / 256) * 256 + n % 256 = n by omega]
theorem form9 (n : Int) (h0 : 72057594037927936 ≤ n) (h1 : n ≤ 18446744073709551615) (hs : sizeOf n = 9) : Form n (octs n 9) := by
  refine ⟨by rw [hs]; rfl, ?_, 255, [n / 72057594037927936 % 256, n / 281474976710656 % 256, n / 1099511627776 % 256, n / 4294967296 % 256, n / 16777216 % 256, n / 65536 % 256, n / 256 % 256, n % 256], rfl, ?_, ?_⟩
  · exact all_cons (by omega) (all_cons (by omega) (all_cons (by omega) (all_cons (by omega) (all_cons (by omega) (all_cons (by omega) (all_cons (by omega) (all_cons (by omega) (all_cons (by omega) (all_nil)))))))))
  · rw [hs]; exact told_of (255) 9 255 255 (by omega) (by omega) (by decide) (by omega) (by omega)
  · rw [hs, show leadOf 9 = 255 by decide +kernel]
    show ((((((((((255 : Int) - 255)) * 256 + n / 72057594037927936 % 256) * 256 + n / 281474976710656 % 256) * 256 + n / 1099511627776 % 256) * 256 + n / 4294967296 % 256) * 256 + n / 16777216 % 256) * 256 + n / 65536 % 256) * 256 + n / 256 % 256) * 256 + n % 256 = n
    rw [show (255 : Int) - 255 = 0 by omega, show (0) * 256 + n / 72057594037927936 % 256 = n / 72057594037927936 by omega, show (n / 72057594037927936) * 256 + n / 281474976710656 % 256 = n / 281474976710656 by omega, show (n / 281474976710656) * 256 + n / 1099511627776 % 256 = n / 1099511627776 by omega, show (n / 1099511627776) * 256 + n / 4294967296 % 256 = n / 4294967296 by omega, show (n / 4294967296) * 256 + n / 16777216 % 256 = n / 16777216 by omega, show (n / 16777216) * 256 + n / 65536 % 256 = n / 65536 by omega, show (n / 65536) * 256 + n / 256 % 256 = n / 256 by omega, show (n / 256) * 256 + n % 256 = n by omega]
theorem octets_form (n : Int) (h0 : 0 ≤ n) (h1 : n ≤ 18446744073709551615) : Form n (octets n) := by
  rcases size_cases n h0 h1 with ⟨hs, ha, hb⟩ | ⟨hs, ha, hb⟩ | ⟨hs, ha, hb⟩ | ⟨hs, ha, hb⟩ | ⟨hs, ha, hb⟩ | ⟨hs, ha, hb⟩ | ⟨hs, ha, hb⟩ | ⟨hs, ha, hb⟩ | ⟨hs, ha, hb⟩
  · have e : octets n = octs n 1 := by unfold octets; rw [hs]; rfl
    rw [e]; exact form1 n ha hb hs
  · have e : octets n = octs n 2 := by unfold octets; rw [hs]; rfl
    rw [e]; exact form2 n ha hb hs
  · have e : octets n = octs n 3 := by unfold octets; rw [hs]; rfl
    rw [e]; exact form3 n ha hb hs
  · have e : octets n = octs n 4 := by unfold octets; rw [hs]; rfl
    rw [e]; exact form4 n ha hb hs
  · have e : octets n = octs n 5 := by unfold octets; rw [hs]; rfl
    rw [e]; exact form5 n ha hb hs
  · have e : octets n = octs n 6 := by unfold octets; rw [hs]; rfl
    rw [e]; exact form6 n ha hb hs
  · have e : octets n = octs n 7 := by unfold octets; rw [hs]; rfl
    rw [e]; exact form7 n ha hb hs
  · have e : octets n = octs n 8 := by unfold octets; rw [hs]; rfl
    rw [e]; exact form8 n ha hb hs
  · have e : octets n = octs n 9 := by unfold octets; rw [hs]; rfl
    rw [e]; exact form9 n ha hb hs
end Go.Proofs.YtnchjlimkgbfpaaGreatDoor

namespace Go.Proofs.YtnchjlimkgbfpaaGreatDoor
open Go.RowKit SumPlain
set_option linter.unusedVariables false
set_option maxRecDepth 20000
def frameOf (k : Int) (l : List Int) : List Int := guardOf (octets (l.length : Int) ++ k :: l)
theorem octets_len (n : Int) (h0 : 0 ≤ n) (h1 : n ≤ 18446744073709551615) : 1 ≤ (octets n).length ∧ (octets n).length ≤ 9 := by
  have := (octets_form n h0 h1).size
  have := size_bd n
  omega
theorem far_cell {w w' : World} {v : Value} {base : Nat} {l : List Int} (ho : OwnB w base v l) (hg : w.grownBy w' v.ownBlock) {b off : Nat} {x : Value} (hb : b < base) (hs : b < w.heap.size) (h : w.cell? ⟨b, off, none⟩ = some x) : w'.cell? ⟨b, off, none⟩ = some x := by
  rw [hg.cell_far ⟨b, off, none⟩ hs]
  · exact h
  · intro e
    have := (ho.lt b e.symm).1
    omega
theorem put_from {w : World} (x y : Value) (n : Int) (h0 : 0 ≤ n) (h1 : n ≤ 18446744073709551615) (wx : World) (hb : Below (w.heap.size + 1) (w.alloc (.cells #[x, y] 154)) wx) :
    Calls Tryz.prog 76 #[.int .u64 n] wx fun e w' => ∃ v, e = .returned v ∧ w'.cell? ⟨w.heap.size, 0, none⟩ = some x ∧ w'.cell? ⟨w.heap.size, 1, none⟩ = some y ∧
      Hid (∀ o, (w'.alloc o).cell? ⟨w.heap.size, 0, none⟩ = some x ∧ (w'.alloc o).cell? ⟨w.heap.size, 1, none⟩ = some y) ∧ Hid (OwnB w' (w.heap.size + 1) v (octets n)) ∧ Hid (w.heap.size + 1 ≤ w'.heap.size) ∧ Hid (Below wx.heap.size wx w') ∧ Hid (Below (w.heap.size + 1) (w.alloc (.cells #[x, y] 154)) w') := by
  refine (put_any n wx h0 h1).mono ?_
  rintro e w' ⟨v, rfl, ho, hb'⟩
  have hs := hb.size
  simp at hs
  have h2 := hb.trans (hb'.mono hs)
  have h3 : ∀ o, Below (w.heap.size + 1) (w.alloc (.cells #[x, y] 154)) (w'.alloc o) := fun o => h2.alloc (by have := h2.size; simpa using this) o
  refine ⟨v, rfl, ?_, ?_, fun o => ⟨?_, ?_⟩, OwnB.mono ho hs, Nat.le_trans hs hb'.size, hb', h2⟩
  · rw [h2.cell (by simp)]; simp [go_sem]
  · rw [h2.cell (by simp)]; simp [go_sem]
  · rw [(h3 o).cell (by simp)]; simp [go_sem]
  · rw [(h3 o).cell (by simp)]; simp [go_sem]
theorem le_al {n : Nat} {w : World} (h : n ≤ w.heap.size) (o : Obj) : n ≤ (w.alloc o).heap.size := by
  simp; omega
theorem own_shape {w : World} {base : Nat} {v : Value} {l : List Int} (h : OwnB w base v l) : ∃ a n c, v = .slice a n c ∧ Hid (n = l.length) := by
  obtain ⟨a, c, e, _⟩ := own_len h
  exact ⟨a, _, c, e, rfl⟩
theorem one_made (w : World) (k : Int) (h0 : 0 ≤ k) (h1 : k ≤ 255) : Octs (w.alloc (.cells #[.int .u8 k] 5)) (.slice (some ⟨w.heap.size, 0, none⟩) 1 1) [k] :=
  Octs.made w [k] (by simp; omega) (by unfold maxLen; simp)
set_option maxHeartbeats 1000000 in
theorem fput_good (k : Int) (a : Option Addr) (c : Nat) (l : List Int) (w : World) (hv : Octs w (.slice a l.length c) l) (h0 : 0 ≤ k) (h1 : k ≤ 255) (hl : l.length ≤ 65536) :
    Calls Tryz.prog 75 #[.agg #[.int .i64 k, .slice a l.length c]] w fun e w' => ∃ v', e = .returned (.tuple #[v', .int .i64 0]) ∧ OwnB w' w.heap.size v' (frameOf k l) ∧ Below w.heap.size w w' := by
  have HV : Hid (Octs w (.slice a l.length c) l) := hv
  clear hv
  have g0 : ¬ k < 0 := by omega
  have g1 : ¬ 255 < k := by omega
  have g2 : ¬ (65536 : Int) < (l.length : Int) := by omega
  have g3 : IntKind.u64.wrap (l.length : Int) = (l.length : Int) := wrap_u64_id _ (by omega) (by omega)
  have g4 : IntKind.u8.wrap k = k := by simp [IntKind.wrap, IntKind.bits, IntKind.signed]; omega
  have HL : Hid ((octets (l.length : Int)).length ≤ 9) := (octets_len _ (by omega) (by omega)).2
  have HL2 : Hid ((octets (l.length : Int)).length + [k].length ≤ 140737488355328) := by have := HL.out; unfold Hid; simp; omega
  have HP : Hid (∀ (wx : World), Below (w.heap.size + 1) (w.alloc (.cells #[.int .i64 k, .slice a l.length c] 154)) wx → Calls Tryz.prog 76 #[.int .u64 (l.length : Int)] wx fun e w' => ∃ v, e = .returned v ∧ w'.cell? ⟨w.heap.size, 0, none⟩ = some (.int .i64 k) ∧ w'.cell? ⟨w.heap.size, 1, none⟩ = some (.slice a l.length c) ∧
      Hid (∀ o, (w'.alloc o).cell? ⟨w.heap.size, 0, none⟩ = some (.int .i64 k) ∧ (w'.alloc o).cell? ⟨w.heap.size, 1, none⟩ = some (.slice a l.length c)) ∧ Hid (OwnB w' (w.heap.size + 1) v (octets (l.length : Int))) ∧ Hid (w.heap.size + 1 ≤ w'.heap.size) ∧ Hid (Below wx.heap.size wx w') ∧ Hid (Below (w.heap.size + 1) (w.alloc (.cells #[.int .i64 k, .slice a l.length c] 154)) w')) := fun wx hb => put_from _ _ _ (by omega) (by omega) wx hb
  have HB0 : Hid (Below (w.heap.size + 1) (w.alloc (.cells #[.int .i64 k, .slice a l.length c] 154)) (w.alloc (.cells #[.int .i64 k, .slice a l.length c] 154)).drew) := (Below.refl _ _).drew
  have HB1 : Hid (∀ o, Below (w.heap.size + 1) (w.alloc (.cells #[.int .i64 k, .slice a l.length c] 154)) ((w.alloc (.cells #[.int .i64 k, .slice a l.length c] 154)).alloc o).drew) := fun o => ((Below.refl _ _).alloc (by simp) o).drew
  have HO : Hid (∀ o : Obj, Octs ((w.alloc o).alloc (.cells #[.int .u8 k] 5)).drew (.slice (some ⟨w.heap.size + 1, 0, none⟩) 1 1) [k]) := fun o => by have := (one_made (w.alloc o) k h0 h1).up (up_dr (Below.refl _ _)); simpa using this
  have HE : Hid (frameOf k l = guardOf (octets (l.length : Int) ++ k :: l)) := rfl
  go_enter Tryz.func75, Tryz.ntmps75
  go_wp2_with fail
  go_region_held3 (fun w' => w'.cell? ⟨w.heap.size, 0, none⟩ = some (.int .i64 k) ∧ w'.cell? ⟨w.heap.size, 1, none⟩ = some (.slice a l.length c)) (first | with_reducible exact ⟨z0, z1⟩ | with_reducible exact ⟨y0, y1⟩ | with_reducible exact yy.out _ | (simp [go_sem, y0, y1]; done) | (simp [go_sem]; done)) (first
    | (go_at_call 76; with_reducible refine (HP.out _ HB0.out).mono ?_; rintro e w' ⟨v, rfl, y0, y1, yy, ho, sz, hx, hb⟩)
    | (go_at_call 76; with_reducible refine (HP.out _ (HB1.out _)).mono ?_; rintro e w' ⟨v, rfl, y0, y1, yy, ho, sz, hx, hb⟩)
    | (refine step_append_octs _ (by rfl) _ _ (by rfl) (w.heap.size + 1) v (octets (l.length : Int)) (by rfl) (by with_reducible exact ho.out) (.slice (some ⟨w.heap.size + 1, 0, none⟩) 1 1) [k] (by rfl) (by exact (HO.out _).up hx.out) HL2.out sz.out ?_; intro v3 w3 o3 g3; have z0 := far_cell ho.out g3 (Nat.lt_succ_self _) sz.out y0; have z1 := far_cell ho.out g3 (Nat.lt_succ_self _) sz.out y1; obtain ⟨a3, n3, c3, rfl, N3⟩ := own_shape o3; have HB3 : Hid (Below (w.heap.size + 1) (w.alloc (.cells #[.int .i64 k, .slice a l.length c] 154)) w3) := hb.out.grown g3 sz.out (fun j hj => (ho.out.lt j hj).1); have O3 : Hid (OwnB w3 (w.heap.size + 1) (.slice a3 n3 c3) (octets (l.length : Int) ++ [k])) := o3; clear o3 g3)
    | (refine step_append_octs _ (by rfl) _ _ (by rfl) (w.heap.size + 1) v (octets (l.length : Int)) (by rfl) (own_up ho.out (up_alloc _ _)) (.slice (some ⟨w'.heap.size, 0, none⟩) 1 1) [k] (by rfl) (one_made _ k h0 h1) HL2.out (le_al sz.out _) ?_; intro v3 w3 o3 g3; have z0 := far_cell (own_up ho.out (up_alloc _ _)) g3 (Nat.lt_succ_self _) (le_al sz.out _) (yy.out _).1; have z1 := far_cell (own_up ho.out (up_alloc _ _)) g3 (Nat.lt_succ_self _) (le_al sz.out _) (yy.out _).2; obtain ⟨a3, n3, c3, rfl, N3⟩ := own_shape o3; have HB3 : Hid (Below (w.heap.size + 1) (w.alloc (.cells #[.int .i64 k, .slice a l.length c] 154)) w3) := (hb.out.alloc sz.out _).grown g3 (le_al sz.out _) (fun j hj => (ho.out.lt j hj).1); have O3 : Hid (OwnB w3 (w.heap.size + 1) (.slice a3 n3 c3) (octets (l.length : Int) ++ [k])) := o3; clear o3 g3))
  all_goals
    have HU3 : Hid (Below w.heap.size w w3) := (up_alloc w _).trans (HB3.out.mono (by omega))
    have HV3 : Hid (Octs w3 (.slice a l.length c) l) := HV.out.up HU3.out
    have S3 : Hid (w.heap.size + 1 ≤ w3.heap.size) := by have := HB3.out.size; unfold Hid; simpa using this
    have HL3 : Hid ((octets (l.length : Int) ++ [k]).length + l.length ≤ 140737488351232) := by have := HL.out; unfold Hid; simp; omega
    have HX : Hid (∀ x ∈ octets (l.length : Int) ++ k :: l, 0 ≤ x ∧ x ≤ 255) := by
      intro x hx
      rcases List.mem_append.1 hx with hx | hx
      · exact (octets_form _ (by omega) (by omega)).octet x hx
      · rcases List.mem_cons.1 hx with hx | hx
        · omega
        · exact HV.out.1 x hx
    clear HB3 HL2 HP HB0 HB1 HO g4 N3
    go_wp2_with (at_builtin; refine wpList_append_octs _ rfl _ _ rfl (w.heap.size + 1) _ _ rfl O3.out _ l rfl HV3.out ?c1 S3.out ?_)
    case c1 => have := HL3.out; omega
    intro v4 w4 o4 g4
    have HB4 : Hid (Below w.heap.size w w4) := HU3.out.grown g4 (by have := S3.out; omega) (fun j hj => by have := (O3.out.lt j hj).1; omega)
    obtain ⟨a4, c4, e4, _⟩ := own_len o4
    generalize hn4 : (octets (l.length : Int) ++ k :: l).length = n4 at e4
    subst e4
    have O4 : Hid (Octs w4 (.slice a4 n4 c4) (octets (l.length : Int) ++ k :: l)) := Octs.own o4 HX.out
    clear o4 g4 O3 hn4
    go_wp2_with fail
    refine (guard_any _ _ _ O4.out (by have := HL3.out; simp at this ⊢; omega)).mono ?_
    rintro e w5 ⟨v5, rfl, o5, b5⟩
    obtain ⟨a5, c5, e5, _⟩ := own_len o5
    generalize hn5 : (guardOf (octets (l.length : Int) ++ k :: l)).length = n5 at e5
    subst e5
    have O5 : Hid (OwnB w5 w.heap.size (.slice a5 n5 c5) (frameOf k l)) := OwnB.mono o5 HB4.out.size
    have HB5 : Hid (Below w.heap.size w w5) := HB4.out.trans (b5.mono HB4.out.size)
    clear o5 b5 hn5
    go_wp2
    go_ret2
    exact ⟨_, rfl, O5.out, HB5.out⟩
end Go.Proofs.YtnchjlimkgbfpaaGreatDoor

namespace Go.Proofs.YtnchjlimkgbfpaaGreatDoor
open Go.RowKit SumPlain
set_option linter.unusedVariables false
set_option maxRecDepth 20000
def NewB (w : World) (base : Nat) (v : Value) (l : List Int) : Prop := Octs w v l ∧ ∀ g, v.ownBlock = some g → base ≤ g
theorem NewB.far {w w' : World} {base : Nat} {v : Value} {l : List Int} (h : NewB w base v l) {r : Option Nat} (hg : w.grownBy w' r) (hr : ∀ g, v.ownBlock = some g → r ≠ some g) : NewB w' base v l := by
  refine ⟨h.1.moved ?_, h.2⟩
  intro b off x hne hb hc
  have hlt : b < w.heap.size := by
    rcases Nat.lt_or_ge b w.heap.size with q | q
    · exact q
    · simp [World.cell?, Array.getElem?_eq_none q] at hc
  rw [hg.cell_far ⟨b, off, none⟩ hlt (fun e => hr b hb e.symm)]
  exact hc
theorem NewB.up {w w' : World} {base : Nat} {v : Value} {l : List Int} (h : NewB w base v l) (hb : Below w.heap.size w w') : NewB w' base v l := ⟨h.1.up hb, h.2⟩
theorem NewB.mono {w : World} {base base' : Nat} {v : Value} {l : List Int} (h : NewB w base v l) (hb : base' ≤ base) : NewB w base' v l := ⟨h.1, fun g e => Nat.le_trans hb (h.2 g e)⟩
theorem OwnB.fresh {w : World} {base : Nat} {v : Value} {l : List Int} (h : OwnB w base v l) (hx : ∀ x ∈ l, 0 ≤ x ∧ x ≤ 255) : NewB w base v l := ⟨Octs.own h hx, fun g e => (h.lt g e).1⟩
theorem NewB.nil (w : World) (base : Nat) : NewB w base (.slice none 0 0) [] := (OwnB.nil w base).fresh (by simp)
end Go.Proofs.YtnchjlimkgbfpaaGreatDoor
