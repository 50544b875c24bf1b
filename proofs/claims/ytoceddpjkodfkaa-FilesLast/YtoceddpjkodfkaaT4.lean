/- The law's own comparisons, where both are the same. -/
import Derived.Test.YtoceddpjkodfkaaT1
import Derived.Deep.QuietTactic
import Derived.BigQuiet
namespace Go.Proofs.Ytoceddpjkodfkaa
open Go.RowKit
set_option linter.unusedVariables false
set_option linter.unusedSimpArgs false

/-- Texts as they are read. -/
def TextsW (w : World) (v : Value) (l : List (List Int)) : Prop := Rws 1 w v (l.map srow)
theorem TextsW.up {w w' : World} {v : Value} {l : List (List Int)} (h : TextsW w v l) (hb : Below w.heap.size w w') : TextsW w' v l := Rws.up h hb
theorem TextsW.len {w : World} {v : Value} {l : List (List Int)} (h : TextsW w v l) : ∃ a cap, v = .slice a l.length cap ∧ l.length ≤ cap ∧ cap ≤ maxLen := by
  obtain ⟨a, cap, e, h1, h2⟩ := Rws.len h
  rw [List.length_map] at e h1
  exact ⟨a, cap, e, h1, h2⟩
theorem TextsW.at {w : World} {v : Value} {l : List (List Int)} (h : TextsW w v l) (k : Nat) (hk : k < l.length) : ∃ b off cap, v = .slice (some ⟨b, off, none⟩) l.length cap ∧ w.cell? ⟨b, off + k, none⟩ = some (.string (strOfNums (l.getD k []))) := by
  obtain ⟨b, off, cap, e, _, _, hc⟩ := Rws.at h k (by rw [List.length_map]; exact hk)
  rw [List.length_map] at e
  have hr : (l.map srow).getD k [] = [.string (strOfNums (l.getD k []))] := by simp [List.getD, hk, srow]
  rw [hr] at hc
  have c0 := hc 0 _ rfl
  rw [Nat.mul_one, Nat.add_zero] at c0
  exact ⟨b, off, cap, e, c0⟩

set_option maxHeartbeats 2000000 in
theorem sameTexts_self (l : List (List Int)) (v u : Value) (w : World) (hv : TextsW w v l) (hu : TextsW w u l) :
    Calls Try.prog 22 #[v, u] w fun e w' => e = .returned (.bool true) ∧ Below w.heap.size w w' := by
  have HV : Hid (TextsW w v l ∧ TextsW w u l) := ⟨hv, hu⟩
  obtain ⟨a1, c1, e1, _, m1⟩ := hv.len
  obtain ⟨a2, c2, e2, _, m2⟩ := hu.len
  subst e1
  subst e2
  have hl63 : l.length ≤ 9223372036854775807 := by unfold maxLen at m1; omega
  clear hv hu
  go_enter Try.func22, Try.ntmps22
  go_wp2_with fail
  go_loopw [5] (fun i wr => ∃ k : Nat, k ≤ l.length ∧ i = .int .i64 k ∧ Hid (Below w.heap.size w wr)) (fun i _ => l.length - (intOf i).toNat)
  case atStart => exact ⟨0, Nat.zero_le _, rfl, Below.refl _ _⟩
  case round =>
    obtain ⟨k, hk, rfl, up⟩ := hrel
    by_cases hlt : k < l.length
    · have hlt' : (k : Int) < (l.length : Int) := by omega
      obtain ⟨b, off, cap, e, z0⟩ := (HV.out.1.up up.out).at k hlt
      obtain ⟨b', off', cap', e', z1⟩ := (HV.out.2.up up.out).at k hlt
      simp at e e'
      obtain ⟨rfl, rfl⟩ := e
      obtain ⟨rfl, rfl⟩ := e'
      have z0' := fun (p : UpW wr) => cell_up z0 p
      have z1' := fun (p : UpW wr) => cell_up z1 p
      go_wp2_with fail
      refine wp_region_up (by kernel_rfl) (by kernel_rfl) ?_
      repeat (quiet_step (fail))
      refine wpQuiet_nil ?_
      intro _ hw'
      obtain ⟨p, hw''⟩ := hw'
      subst hw''
      have HU : Hid (Below w.heap.size w p.val) := up_trans up.out p.up
      go_wp2_with fail
      exact ⟨⟨k + 1, by omega, by go_num, HU⟩, by simp [intOf]; omega⟩
    · have hlt' : ¬ (k : Int) < (l.length : Int) := by omega
      go_wp2_with fail
      go_ret
      exact ⟨rfl, up.out⟩
end Go.Proofs.Ytoceddpjkodfkaa
