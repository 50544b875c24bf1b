/- The page's examples hold: the law's helper alive returns true, whatever the memory, and changes nothing that was there. -/
import Derived.Test.YtamamhgmijmkjaaSame
namespace Go.Proofs.Ytamamhgmijmkjaa
open Go.RowKit
set_option linter.unusedVariables false

theorem Octs.made (w : World) (l : List Int) (hx : ∀ x ∈ l, 0 ≤ x ∧ x ≤ 255) (hm : l.length ≤ maxLen) : Octs (w.alloc (.cells (l.map (Value.int .u8)).toArray 5)) (.slice (some ⟨w.heap.size, 0, none⟩) l.length l.length) l := by
  refine ⟨hx, ?_⟩
  by_cases hl : l = []
  · subst hl; exact .inl ⟨rfl, _, _, rfl, fun h => by cases h⟩
  · refine .inr ⟨hl, w.heap.size, 0, l.length, rfl, Nat.le_refl _, hm, fun j x hj => ?_⟩
    have := cells_new w (l.map (Value.int .u8)) [] 5 j (.int .u8 x) (by simp [hj])
    simpa [Addr.add_lit] using this

theorem get_eg : getRet [128, 128] = .tuple #[.int .u64 128, .int .i64 2, .int .i64 0] := by
  have h : getOf [128, 128] = (128, 2, 0) := by decide +kernel
  unfold getRet
  rw [h]
theorem put_eg1 : octets 127 = [127] := by decide +kernel
theorem put_eg2 : octets 9223372036854775808 = [255, 128, 0, 0, 0, 0, 0, 0, 0] := by decide +kernel

theorem Octs.step {w w' : World} {v : Value} {l : List Int} (h : Octs w v l) (hv : ∀ k, v.ownBlock = some k → k < w.heap.size) (hb : Below w.heap.size w w') : Octs w' v l :=
  h.below hb fun k hk _ => hv k hk

theorem up_drewN (w : World) (d : Nat) : Below w.heap.size w (w.drewN d) := ⟨rfl, rfl, rfl, Nat.le_refl _, fun _ _ => rfl⟩
theorem up_alloc (w : World) (o : Obj) : Below w.heap.size w (w.alloc o) := (Below.refl _ _).alloc (Nat.le_refl _) _
theorem up_trans {a b c : World} (h : Below a.heap.size a b) (k : Below b.heap.size b c) : Below a.heap.size a c := h.trans (k.mono h.size)

set_option maxHeartbeats 400000 in
theorem alive_any (w : World) : Calls Try.prog 22 #[] w fun e w' => e = .returned (.bool true) ∧ Below w.heap.size w w' := by
  go_enter Try.func22, Try.ntmps22
  go_wp2_with fail
  refine (get_any [128, 128] _ _ (Octs.made w [128, 128] (by decide) (by unfold maxLen; decide))).mono ?_
  rintro e w1 ⟨rfl, d1, rfl⟩
  rw [get_eg]
  go_wp2_with fail
  refine (num_any _ _).mono ?_
  rintro e w2 ⟨rfl, rfl⟩
  go_wp2_with fail
  refine (put_any 127 _ (by omega) (by omega)).mono ?_
  rintro e w2 ⟨v2, rfl, ho2, hb2⟩
  rw [put_eg1] at ho2
  have hO2 := Octs.own ho2 (by decide)
  have hv2 : ∀ k, v2.ownBlock = some k → k < w2.heap.size := fun k hk => (ho2.lt k hk).2
  clear ho2
  go_wp2_with fail
  refine (same_any [127] [127] _ _ _ (hO2.step hv2 ((Below.refl _ _).alloc (Nat.le_refl _) _)) (Octs.made w2 [127] (by decide) (by unfold maxLen; decide))).mono ?_
  rintro e w3 ⟨rfl, rfl⟩
  rw [show decide ([(127 : Int)] = [127]) = true from rfl]
  clear hO2 hv2
  go_wp2_with fail
  refine (put_any 9223372036854775808 _ (by omega) (by omega)).mono ?_
  rintro e w4 ⟨v4, rfl, ho4, hb4⟩
  rw [put_eg2] at ho4
  have hO4 := Octs.own ho4 (by decide)
  have hv4 : ∀ k, v4.ownBlock = some k → k < w4.heap.size := fun k hk => (ho4.lt k hk).2
  clear ho4
  go_wp2_with fail
  refine (same_any [255, 128, 0, 0, 0, 0, 0, 0, 0] [255, 128, 0, 0, 0, 0, 0, 0, 0] _ _ _ (hO4.step hv4 ((Below.refl _ _).alloc (Nat.le_refl _) _)) (Octs.made w4 [255, 128, 0, 0, 0, 0, 0, 0, 0] (by decide) (by unfold maxLen; decide))).mono ?_
  rintro e w5 ⟨rfl, rfl⟩
  rw [show decide ([(255 : Int), 128, 0, 0, 0, 0, 0, 0, 0] = [255, 128, 0, 0, 0, 0, 0, 0, 0]) = true from rfl]
  clear hO4 hv4
  go_wp2
  go_ret
  refine ⟨rfl, ?_⟩
  exact up_trans (up_alloc w _) (up_trans (up_drewN _ d1) (up_trans hb2 (up_trans (up_alloc w2 _) (up_trans hb4 (up_alloc w4 _)))))
end Go.Proofs.Ytamamhgmijmkjaa
