/- A record one of whose octets behind its length is another one is refused (plain lists). -/
import Derived.Test.YtgkgellmeeljbaaFMath
namespace Go.Proofs.Ytgkgellmeeljbaa
open Go.RowKit SumPlain
set_option linter.unusedVariables false

theorem ext_one (c : BitVec 32) (pre post : List Int) (y b : Int) (hy : 0 ≤ y ∧ y ≤ 255) (hb : 0 ≤ b ∧ b ≤ 255) :
    ext c (pre ++ bits .xor .u8 y b :: post) = ext c (pre ++ y :: post) ^^^ stpN (8 * post.length) (octS 0#32 (BitVec.ofInt 8 b)) := by
  have h8 := (xor8 y b hy.1 hy.2 hb.1 hb.2).1
  rw [ext_app, ext_app]
  generalize ext c pre = d
  show extS (octS d (BitVec.ofInt 8 (bits .xor .u8 y b))) (ob post) = extS (octS d (BitVec.ofInt 8 y)) (ob post) ^^^ _
  have e : octS d (BitVec.ofInt 8 (bits .xor .u8 y b)) = octS d (BitVec.ofInt 8 y) ^^^ octS 0#32 (BitVec.ofInt 8 b) := by
    rw [h8, ← oct_xor]
    simp
  rw [e, ext_behind, ob_length]

theorem top_zero (x : BitVec 8) (h : top x = 0#32) : x = 0#8 := by
  unfold top at h
  have := congrArg BitVec.toNat h
  simp at this
  have hx := x.isLt
  apply BitVec.eq_of_toNat_eq
  simp
  omega

theorem ext_one_ne (c : BitVec 32) (pre post : List Int) (y b : Int) (hy : 0 ≤ y ∧ y ≤ 255) (hb : 0 < b ∧ b ≤ 255) (h0 : ext c (pre ++ y :: post) = 0#32) :
    ext c (pre ++ bits .xor .u8 y b :: post) ≠ 0#32 := by
  rw [ext_one c pre post y b hy ⟨by omega, hb.2⟩, h0, BitVec.zero_xor]
  intro h
  have h1 := stpN_inj _ _ h
  have h2 : octS 0#32 (BitVec.ofInt 8 b) = stpN 8 (0#32 ^^^ top (BitVec.ofInt 8 b)) := rfl
  rw [h2, BitVec.zero_xor] at h1
  have h3 := top_zero _ (stpN_inj _ _ h1)
  have h4 := ob8 b (by omega) hb.2
  rw [h3] at h4
  simp at h4
  omega

theorem fget_rot (k : Int) (l : List Int) (hk : 0 ≤ k ∧ k ≤ 255) (hl : l.length ≤ 65536) (hx : ∀ x ∈ l, 0 ≤ x ∧ x ≤ 255) (q : Nat) (hq : q < l.length + 5) (b y : Int) (hb : 0 < b ∧ b ≤ 255)
    (hy : (frameOf k l)[(octets (l.length : Int)).length + q]? = some y) :
    fget ((frameOf k l).set ((octets (l.length : Int)).length + q) (bits .xor .u8 y b)) = (0, [], 0, 21) := by
  obtain ⟨j, hj⟩ : ∃ j, j = (octets (l.length : Int)).length := ⟨_, rfl⟩
  obtain ⟨z, hz⟩ : ∃ z, z = bits .xor .u8 y b := ⟨_, rfl⟩
  rw [← hj] at hy ⊢
  have hF := frame_len k l
  have hO := frame_octet k l hk hl hx
  have hlt : j + q < (frameOf k l).length := by omega
  have hy' : 0 ≤ y ∧ y ≤ 255 := hO y (List.mem_of_getElem? hy)
  have es : frameOf k l = (frameOf k l).take (j + q) ++ y :: (frameOf k l).drop (j + q + 1) := by
    have := List.getElem?_eq_some_iff.1 hy
    obtain ⟨h1, h2⟩ := this
    rw [← h2, List.getElem_cons_drop, List.take_append_drop]
  have es' : (frameOf k l).set (j + q) z = (frameOf k l).take (j + q) ++ z :: (frameOf k l).drop (j + q + 1) := by
    rw [List.set_eq_take_append_cons_drop, if_pos hlt]
  have h0 : ext ones (frameOf k l) = 0#32 := ext_guard ones _
  have hne : ext ones ((frameOf k l).set (j + q) z) ≠ 0#32 := by
    rw [es', hz]
    refine ext_one_ne ones _ _ y b hy' hb ?_
    rw [← es]; exact h0
  have hpre : (frameOf k l).take j = octets (l.length : Int) := by
    unfold frameOf guardOf
    rw [List.append_assoc, hj, List.take_left]
  have hG : getOf ((frameOf k l).set (j + q) z) = ((l.length : Int), (j : Int), 0) := by
    have e2 : (frameOf k l).set (j + q) z = octets (l.length : Int) ++ ((frameOf k l).set (j + q) z).drop j := by
      have h1 : ((frameOf k l).set (j + q) z).take j = octets (l.length : Int) := by
        rw [List.take_set_of_le (by omega)]
        exact hpre
      rw [← h1, List.take_append_drop]
    have h := getOf_back (l.length : Int) (by omega) (by omega) (((frameOf k l).set (j + q) z).drop j)
    rw [← e2] at h
    rw [getRet_inj h, ← (octets_form (l.length : Int) (by omega) (by omega)).size, hj]
  have hlen : ((frameOf k l).set (j + q) z).length = j + 1 + l.length + 4 := by rw [List.length_set]; omega
  have hm : ((j : Int) + 1 + (l.length : Int) + 4).toNat = j + 1 + l.length + 4 := by omega
  have hB : bareOf (((frameOf k l).set (j + q) z).take (j + 1 + l.length + 4)) = ([], 21) := by
    rw [List.take_of_length_le (by omega)]
    exact bare_not _ (by omega) hne
  rw [← hz]
  exact fget_bad hG (by omega) (by omega) hm hB (by decide)
end Go.Proofs.Ytgkgellmeeljbaa
