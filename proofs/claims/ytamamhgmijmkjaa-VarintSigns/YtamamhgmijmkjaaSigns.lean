/- The law VarintSigns holds: for every two numbers n and m of type int the Go function returns true, and what was handed in reads as before; no conditions. -/
import Derived.Test.YtamamhgmijmkjaaRows
import Derived.Test.YtamamhgmijmkjaaAlive
import Derived.WalkKit
import Derived.ProofKit
import Derived.OpenShut
import Derived.ShutString
namespace Go.Proofs.Ytamamhgmijmkjaa.varintSigns
open Go.ChangeShapes Go.WideShapes Go.ChangeAt Go.RowKit
open Go.ChangeMaps (open_string shut_string)
set_option linter.unusedVariables false      -- a walk need not use every 'w<i>' (that an integer argument fits its kind)

theorem own : ownKnob Try.prog.godebug = none := by kernel_rfl


theorem zig_eq (a b : Int) : (zigOf a == zigOf b) = (a == b) := by
  by_cases h : a = b
  · subst h; simp
  · rw [beq_eq_false_iff_ne.2 h, beq_eq_false_iff_ne]
    intro e
    exact h (by rw [← zag_zig a, e, zag_zig])

set_option maxHeartbeats 400000 in
theorem walk (a0 : Int) (a1 : Int) (w0 : (Lit.int .i64 a0).wf = true) (w1 : (Lit.int .i64 a1).wf = true) (w : World) :
    Calls Try.prog 7 #[.int .i64 a0, .int .i64 a1] w fun e w' => e = .returned (.bool true) ∧ Below w.heap.size w w' := by
  obtain ⟨p0, p1⟩ := bounds_i64 w0
  obtain ⟨q0, q1⟩ := bounds_i64 w1
  obtain ⟨x0, x1⟩ := zig_bd a0 p0 p1
  obtain ⟨y0, y1⟩ := zig_bd a1 q0 q1
  clear w0 w1
  go_enter Try.func7, Try.ntmps7
  go_wp2_with fail
  refine (alive_any _).mono ?_
  rintro e w1 ⟨rfl, hb⟩
  go_wp2_with fail
  refine (zig_any a0 _ p0 p1).mono ?_
  rintro e w2 ⟨rfl, rfl⟩
  go_wp2_with fail
  refine (zig_any a1 _ q0 q1).mono ?_
  rintro e w2 ⟨rfl, rfl⟩
  go_wp2_with fail
  refine (zag_any (zigOf a0) _ x0 x1).mono ?_
  rintro e w2 ⟨rfl, rfl⟩
  rw [zag_zig a0]
  go_wp2_with fail
  refine (zag_any (zigOf a1) _ y0 y1).mono ?_
  rintro e w2 ⟨rfl, rfl⟩
  rw [zag_zig a1]
  have hz := zig_eq a0 a1
  have hle : (0 ≤ a0 ∧ 0 ≤ a1 ∧ a0 ≤ a1 ∨ a0 < 0 ∧ a1 < 0 ∧ a1 ≤ a0) → zigOf a0 ≤ zigOf a1 := by
    unfold zigOf; split <;> split <;> omega
  by_cases c0 : 0 ≤ a0
  · by_cases c1 : 0 ≤ a1
    · by_cases c2 : a0 ≤ a1
      · have hl : zigOf a0 ≤ zigOf a1 := hle (.inl ⟨c0, c1, c2⟩)
        clear hle
        go_wp2
        go_ret
        exact ⟨rfl, hb⟩
      · clear hle
        go_wp2
        go_ret
        exact ⟨rfl, hb⟩
    · clear hle
      go_wp2
      go_ret
      exact ⟨rfl, hb⟩
  · by_cases c1 : 0 ≤ a1
    · clear hle
      go_wp2
      go_ret
      exact ⟨rfl, hb⟩
    · by_cases c2 : a1 ≤ a0
      · have hl : zigOf a0 ≤ zigOf a1 := hle (.inr ⟨by omega, by omega, c2⟩)
        clear hle
        go_wp2
        go_ret
        exact ⟨rfl, hb⟩
      · clear hle
        go_wp2
        go_ret
        exact ⟨rfl, hb⟩

/-! ### THE ROW's STEP: WRITTEN OUT: LEAVE IT -/
set_option maxRecDepth 100000 in
theorem lifted (os : Os) (started : os.Started) (H : Type) (enc : TypeId × Value → H) :
    ReturnsInHanded {} Try.checked os 7 .any (Rows.varintSignsSpec.pre6 enc Try.prog Try.f7 Rows.varintSignsRow.domain false) (Rows.varintSignsSpec.post enc Try.prog Try.f7 false true false false) := by
  refine returnsInHanded_of_change (C := Try.checked) own started (by kernel_rfl) Try.func7
    (ChangeSpec.witness6 (enc := enc) (C := Try.checked) false ⟨#[], #[.int .i64 0, .int .i64 0], []⟩ 8 (by kernel_rfl) (by kernel_rfl) (by kernel_rfl) (by kernel_rfl)) ?_
  intro W base args ds gs before hval0 hW hcnd _
  have hval : ∀ (j : Nat) t v, Try.f7.params[j]? = some t → args[j]? = some v → Value.okWide Try.prog W .any base t v := hval0
  have hW' := hW
  obtain ⟨p, q, hA0, hV, rfl, hfz, hnd⟩ := hW
  have hA : DataW.TrodAll enc Try.prog W 0 (fun _ => true) true Try.f7.params.toList args.toList ds p := hA0
  rw [Try.params7] at hA hval
  obtain ⟨v0, vs0, d0, ds0, p0, q0, hargs, rfl, rfl, h0, r0⟩ := trodAll_cons hA
  obtain ⟨v1, vs1, d1, ds1, p1, q1, rfl, rfl, rfl, h1, r1⟩ := trodAll_cons r0
  obtain ⟨rfl, rfl, rfl⟩ := trodAll_nil r1
  obtain rfl : args = #[v0, v1] := by cases args; simp_all
  obtain ⟨rfl, rfl⟩ := trodVars_none hV
  obtain ⟨a0, rfl, rfl, rfl, w0⟩ := open_int Try.underlying3 (hval 0 3 v0 rfl rfl) h0
  obtain ⟨a1, rfl, rfl, rfl, w1⟩ := open_int Try.underlying3 (hval 1 3 v1 rfl rfl) h1
  clear hA0 hval0
  simp only [List.append_nil] at hW'
  refine (walk a0 a1 w0 w1 W).mono fun e W' ⟨he, bel⟩ => ?_
  subst he
  exact ⟨_, rfl, _, _, _, [], _, [], hW', trodAll_mk1 (shut_bool Try.underlying4 _), (trodAll_cons_mk (shut_int Try.underlying3 w0) (trodAll_cons_mk (shut_int Try.underlying3 w1) trodAll_mk0)), rfl, bel.frame _, fun h => by cases h⟩

theorem over : Rows.varintSignsRow.holds Try.pinned (OpenSpec.ofChange Rows.varintSignsSpec) :=
  OpenClaim.holds_of_wide 7 Try.f7 rfl rfl rfl rfl rfl rfl rfl ⟨rfl, rfl, rfl, rfl, rfl⟩ rfl rfl rfl rfl rfl (by kernel_rfl) Try.func7 (by kernel_rfl)
    (of_decide_eq_true (by kernel_rfl)) (by unfold Func.isWrapper; first | (rw [if_pos (by decide +kernel)]; kernel_rfl) | (rw [if_neg (by decide +kernel)]; exact ⟨rfl, rfl⟩))
    (fun os started H enc _ => lifted os started H enc)

end Go.Proofs.Ytamamhgmijmkjaa.varintSigns

namespace Go.Proofs.Ytamamhgmijmkjaa
theorem varintSigns_holds : Rows.VarintSignsSaid := varintSigns.over
#print axioms varintSigns_holds
end Go.Proofs.Ytamamhgmijmkjaa
