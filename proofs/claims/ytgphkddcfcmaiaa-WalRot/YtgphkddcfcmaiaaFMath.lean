/- A record comes back from its octets, whatever stands behind (plain lists). -/
import Derived.Test.YtgphkddcfcmaiaaFGet
namespace Go.Proofs.Ytgphkddcfcmaiaa
open Go.RowKit SumPlain
set_option linter.unusedVariables false

theorem frame_len (k : Int) (l : List Int) : (frameOf k l).length = (octets (l.length : Int)).length + 1 + l.length + 4 := by
  unfold frameOf
  rw [guard_len]
  simp
  omega

theorem frame_octet (k : Int) (l : List Int) (hk : 0 ≤ k ∧ k ≤ 255) (hl : l.length ≤ 65536) (hx : ∀ x ∈ l, 0 ≤ x ∧ x ≤ 255) : ∀ x ∈ frameOf k l, 0 ≤ x ∧ x ≤ 255 := by
  refine guard_octet _ ?_
  intro x hx'
  rcases List.mem_append.1 hx' with h | h
  · exact (octets_form _ (by omega) (by omega)).octet x h
  · rcases List.mem_cons.1 h with h | h
    · omega
    · exact hx x h

theorem getOf_frame (k : Int) (l more : List Int) (hl : l.length ≤ 65536) : getOf (frameOf k l ++ more) = ((l.length : Int), (((octets (l.length : Int)).length : Nat) : Int), 0) := by
  have h := getOf_back (l.length : Int) (by omega) (by omega) (k :: l ++ lastL (ext ones (octets (l.length : Int) ++ k :: l)) ++ more)
  have e : octets (l.length : Int) ++ (k :: l ++ lastL (ext ones (octets (l.length : Int) ++ k :: l)) ++ more) = frameOf k l ++ more := by
    unfold frameOf guardOf
    simp
  rw [e] at h
  rw [getRet_inj h, ← (octets_form (l.length : Int) (by omega) (by omega)).size]

theorem fget_back (k : Int) (l more : List Int) (hl : l.length ≤ 65536) : fget (frameOf k l ++ more) = (k, l, ((frameOf k l).length : Int), 0) := by
  have hF := frame_len k l
  have hm : ((((octets (l.length : Int)).length : Nat) : Int) + 1 + (l.length : Int) + 4).toNat = (frameOf k l).length := by omega
  have hb : bareOf ((frameOf k l ++ more).take (frameOf k l).length) = (octets (l.length : Int) ++ k :: l, 0) := by
    rw [List.take_left]
    exact bare_guard _
  rw [fget_good (getOf_frame k l more hl) (by omega) (by rw [List.length_append]; omega) hm hb]
  have e1 : (octets (l.length : Int) ++ k :: l).getD (octets (l.length : Int)).length 0 = k := by simp
  have e2 : (octets (l.length : Int) ++ k :: l).drop ((octets (l.length : Int)).length + 1) = l := by
    rw [← List.drop_drop, List.drop_left]
    rfl
  rw [e1, e2, hF]
  simp

/-- Put refuses. -/
theorem fput_bad (k : Int) (a : Option Addr) (n c : Nat) (h : ¬ (0 ≤ k ∧ k ≤ 255 ∧ n ≤ 65536)) :
    ∃ x : Int, (x = 22 ∨ x = 5) ∧ ∀ w : World, Calls Try.prog 41 #[.agg #[.int .i64 k, .slice a n c]] w fun e w' => e = .returned (.tuple #[.slice none 0 0, .int .i64 x]) ∧ Below w.heap.size w w' := by
  by_cases h1 : k < 0 ∨ 255 < k
  · exact ⟨22, .inl rfl, fun w => fput_kind k a n c w h1⟩
  · exact ⟨5, .inr rfl, fun w => fput_long k a n c w (by omega) (by omega) (by omega)⟩
end Go.Proofs.Ytgphkddcfcmaiaa
