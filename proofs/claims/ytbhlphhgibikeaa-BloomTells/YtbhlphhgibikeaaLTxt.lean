/- Texts copied and compared by the law. -/
import Derived.Test.YtbhlphhgibikeaaBAlive
import Derived.Deep.QuietTactic
import Derived.BigQuiet
namespace Go.Proofs.Ytbhlphhgibikeaa
open Go.RowKit
set_option linter.unusedVariables false
set_option linter.unusedSimpArgs false

set_option maxHeartbeats 1000000 in
theorem copyTexts_any (l : List (List Int)) (v : Value) (w : World) (hv : TextsW w v l) (hl : l.length ≤ 8796093022208) :
    Calls Try.prog 9 #[v] w fun e w' => ∃ a n c, e = .returned (.slice a n c) ∧ TextsW w' (.slice a n c) l ∧ Below w.heap.size w w' ∧ ∀ b, (Value.slice a n c).ownBlock = some b → w.heap.size ≤ b := by
  have HV : Hid (Rws 1 w v (l.map srow)) := hv
  have HB : Hid ((((([] : List (List Value)).length + (l.map srow).length) + (([] : List (List Value)).length + (l.map srow).length) / 4 + 192) * 16 ≤ 281474976710656) ∧ ([] : List (List Value)).length + (l.map srow).length ≤ maxLen) := by
    unfold Hid
    rw [List.length_map]
    unfold maxLen
    simp only [List.length_nil]
    omega
  clear hv
  go_enter Try.func9, Try.ntmps9
  go_wp2_with (at_builtin; refine wpList_append_rows w rfl _ _ 22 9 _ 1 16 rfl Try.underlying22 Try.info9 rfl (by decide) w.heap.size (.slice none 0 0) [] rfl (OwnR.nil _ _ _ _) v (l.map srow) rfl HV.out ?c1 HB.out.1 HB.out.2 (Nat.le_refl _) ?_)
  case c1 =>
    intro cs hcs u hu
    obtain ⟨s, _, rfl⟩ := List.mem_map.1 hcs
    simp [srow] at hu
    subst hu
    rfl
  intro v' w' hown hg
  have HT : Hid (TextsW w' v' l) := Rws.own hown
  have HL : Hid (∀ b, v'.ownBlock = some b → w.heap.size ≤ b) := fun b hb => (hown.2.lt b hb).1
  have HU : Hid (Below w.heap.size w w') := (Below.refl _ _).grown hg (Nat.le_refl _) (by simp [Value.ownBlock])
  clear hown hg
  obtain ⟨a, c, e, _, _⟩ := HT.out.len
  obtain ⟨n, hn⟩ : ∃ n, n = l.length := ⟨_, rfl⟩
  rw [← hn] at e
  subst e
  clear hn
  go_wp2
  go_ret
  exact ⟨a, n, c, rfl, HT.out, HU.out, HL.out⟩

set_option maxHeartbeats 2000000 in
theorem sameTexts_self (l : List (List Int)) (v u : Value) (w : World) (hv : TextsW w v l) (hu : TextsW w u l) :
    Calls Try.prog 19 #[v, u] w fun e w' => e = .returned (.bool true) ∧ Below w.heap.size w w' := by
  have HV : Hid (TextsW w v l ∧ TextsW w u l) := ⟨hv, hu⟩
  obtain ⟨a1, c1, e1, _, m1⟩ := hv.len
  obtain ⟨a2, c2, e2, _, m2⟩ := hu.len
  subst e1
  subst e2
  have hl63 : l.length ≤ 9223372036854775807 := by unfold maxLen at m1; omega
  clear hv hu
  go_enter Try.func19, Try.ntmps19
  go_wp2_with fail
  go_loopw [5] (fun i wr => ∃ k : Nat, k ≤ l.length ∧ i = .int .i64 k ∧ Hid (Below w.heap.size w wr)) (fun i _ => l.length - (intOf i).toNat)
  case atStart => exact ⟨0, Nat.zero_le _, rfl, Below.refl _ _⟩
  case round =>
    obtain ⟨k, hk, rfl, up⟩ := hrel
    by_cases hlt : k < l.length
    · have hlt' : (k : Int) < (l.length : Int) := by omega
      obtain ⟨b, off, cap, e, z0⟩ := (HV.out.1.up up.out).at k hlt
      obtain ⟨b', off', cap', e', z1⟩ := (HV.out.2.up up.out).at k hlt
      simp at e e'
      obtain ⟨rfl, rfl⟩ := e
      obtain ⟨rfl, rfl⟩ := e'
      have z0' := fun (p : UpW wr) => cell_up z0 p
      have z1' := fun (p : UpW wr) => cell_up z1 p
      go_wp2_with fail
      refine wp_region_up (by kernel_rfl) (by kernel_rfl) ?_
      repeat (quiet_step (fail))
      refine wpQuiet_nil ?_
      intro _ hw'
      obtain ⟨p, hw''⟩ := hw'
      subst hw''
      have HU : Hid (Below w.heap.size w p.val) := up_trans up.out p.up
      go_wp2_with fail
      exact ⟨⟨k + 1, by omega, by go_num, HU⟩, by simp [intOf]; omega⟩
    · have hlt' : ¬ (k : Int) < (l.length : Int) := by omega
      go_wp2_with fail
      go_ret
      exact ⟨rfl, up.out⟩
theorem TextsW.lt {w : World} {v : Value} {l : List (List Int)} (h : TextsW w v l) (b : Nat) (hb : v.ownBlock = some b) (hne : l ≠ []) : b < w.heap.size := by
  obtain ⟨b', off, cap, e, hc⟩ := h.at 0 (List.length_pos_iff.2 hne)
  subst e
  simp [Value.ownBlock] at hb
  subst hb
  exact World.block_lt_of_cell? w ⟨b', off + 0, none⟩ hc
theorem TextsW.far {w w' : World} {v : Value} {l : List (List Int)} {r : Option Nat} (h : TextsW w v l) (hg : w.grownBy w' r) (hne : ∀ b, v.ownBlock = some b → l ≠ [] → some b ≠ r) : TextsW w' v l :=
  Rws.far h hg (fun b hb hl => hne b hb (fun e => hl (by rw [e]; rfl)))
end Go.Proofs.Ytbhlphhgibikeaa
