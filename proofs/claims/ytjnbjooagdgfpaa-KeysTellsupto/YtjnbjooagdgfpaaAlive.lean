/- The page's examples hold: the law's helper alive returns true, whatever the memory, and changes nothing that was there. -/
import Derived.Test.YtjnbjooagdgfpaaAbove
namespace Go.Proofs.Ytjnbjooagdgfpaa
open Go.RowKit
set_option linter.unusedVariables false

theorem Parts.made (w : World) (l : List (Bool × Int × List Int)) (e : TypeId) (hx : ∀ p ∈ l, Pwf p) (hm : l.length ≤ maxLen) : Parts (w.alloc (.cells (l.flatMap pcells).toArray e)) (.slice (some ⟨w.heap.size, 0, none⟩) l.length l.length) l := by
  refine ⟨hx, _, _, rfl, Nat.le_refl _, hm, fun _ => ⟨w.heap.size, 0, rfl, fun j p hj => ?_⟩⟩
  obtain ⟨c0, c1, c2⟩ := flat_get l j p hj
  have k : ∀ i x, (l.flatMap pcells)[i]? = some x → (w.alloc (.cells (l.flatMap pcells).toArray e)).cell? ⟨w.heap.size, 0 + i, none⟩ = some x := by
    intro i x hi
    have := cells_new w (l.flatMap pcells) [] e i x hi
    rw [Addr.add_lit] at this
    simpa using this
  exact ⟨k _ _ c0, by rw [Nat.add_assoc]; exact k _ _ c1, by rw [Nat.add_assoc]; exact k _ _ c2⟩

theorem enc_eg : encodeOf [(true, 1, []), (false, 0, [97])] = ([17, 128, 0, 0, 0, 0, 0, 0, 1, 34, 97, 0, 1], 0) := by decide +kernel
theorem above_eg : aboveOf [97] = ([98], true) := by decide +kernel

set_option maxHeartbeats 1000000 in
theorem alive_any (w : World) : Calls Try.prog 20 #[] w fun e w' => e = .returned (.bool true) ∧ Below w.heap.size w w' := by
  have hwf : ∀ p ∈ [(true, (1 : Int), ([] : List Int)), (false, 0, [97])], Pwf p := by
    intro p hp
    simp at hp
    rcases hp with rfl | rfl <;> (unfold Pwf maxLen; simp)
  have s1 : (⟨#[17, 128, 0, 0, 0, 0, 0, 0, 1, 34, 97, 0, 1]⟩ : ByteArray) = strOfNums [17, 128, 0, 0, 0, 0, 0, 0, 1, 34, 97, 0, 1] := by rfl
  have s2 : (⟨#[98]⟩ : ByteArray) = strOfNums [98] := by rfl
  have s3 : (⟨#[97]⟩ : ByteArray) = strOfNums [97] := by rfl
  have b1 : ((strOfNums [17, 128, 0, 0, 0, 0, 0, 0, 1, 34, 97, 0, 1]).toList == (⟨#[17, 128, 0, 0, 0, 0, 0, 0, 1, 34, 97, 0, 1]⟩ : ByteArray).toList) = true := by rw [s1]; simp
  have b2 : ((strOfNums [98]).toList == (⟨#[98]⟩ : ByteArray).toList) = true := by rw [s2]; simp
  go_enter Try.func20, Try.ntmps20
  go_wp2_with fail
  refine (encode_any [(true, 1, []), (false, 0, [97])] _ _ (Parts.made w _ 49 hwf (by unfold maxLen; simp)) (by intro p hp; simp at hp; rcases hp with rfl | rfl <;> simp)).mono ?_
  rintro e w1 ⟨rfl, hb1⟩
  rw [enc_eg]
  have HB1 : Hid (Below w.heap.size w w1) := up_trans (up_al (Below.refl _ _) _) hb1
  clear hb1
  go_wp2_with fail
  refine (above_any [97] (by simp) (by simp) _).mono ?_
  rintro e w2 ⟨rfl, hb2⟩
  rw [above_eg]
  have HB2 : Hid (Below w.heap.size w w2) := up_trans HB1.out hb2
  clear hb2 HB1
  go_wp2_with fail
  refine (num_any _ _).mono ?_
  rintro e w3 ⟨rfl, rfl⟩
  go_wp2
  go_ret
  exact ⟨rfl, HB2.out⟩
end Go.Proofs.Ytjnbjooagdgfpaa
