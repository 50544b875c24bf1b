/- The law VarintOrder holds: for every two numbers a and b of type uint64 the Go function returns true, and what was handed in reads as before; no conditions. -/
import Derived.Test.YtamamhgmijmkjaaRows
import Derived.Test.YtamamhgmijmkjaaKept
import Derived.Deep.RegionWith
import Derived.WalkKit
import Derived.ProofKit
import Derived.OpenShut
import Derived.ShutString
namespace Go.Proofs.Ytamamhgmijmkjaa.varintOrder
open Go.ChangeShapes Go.WideShapes Go.ChangeAt Go.RowKit
open Go.ChangeMaps (open_string shut_string)
set_option linter.unusedVariables false      -- a walk need not use every 'w<i>' (that an integer argument fits its kind)

theorem own : ownKnob Try.prog.godebug = none := by kernel_rfl

set_option maxHeartbeats 1000000 in
theorem walk (a0 : Int) (a1 : Int) (w0 : (Lit.int .u64 a0).wf = true) (w1 : (Lit.int .u64 a1).wf = true) (w : World) :
    Calls Try.prog 6 #[.int .u64 a0, .int .u64 a1] w fun e w' => e = .returned (.bool true) ∧ Below w.heap.size w w' := by
  obtain ⟨p0, p1⟩ := bounds_u64 w0
  obtain ⟨q0, q1⟩ := bounds_u64 w1
  clear w0 w1
  go_enter Try.func6, Try.ntmps6
  go_wp2_with fail
  refine (alive_any _).mono ?_
  rintro e w1 ⟨rfl, hb⟩
  go_wp2_with fail
  have tok : True := trivial
  go_region_with (first
    | (go_at_call 15; have _t := tok; refine (put_kept a0 _ p0 p1).mono ?_; rintro e w2 ⟨v2, rfl, hK2, hb2⟩; have k2 := hK2.run; clear tok)
    | (go_at_call 15; refine (put_kept a1 _ q0 q1).mono ?_; rintro e w3 ⟨v3, rfl, hK3, hb3⟩; have hK4 := hK2.up hb3; have k3 := hK3.run; have k4 := hK4.run))
  all_goals
    clear hK2 hK3 hK4 k2 k3 k4
    have hbb : Hid (Below w.heap.size w w3) := up_trans hb (up_trans (up_drewN w1 1) (up_trans hb2 hb3))
    clear hb hb2 hb3
    have f1 := text_less a0 a1 p0 p1 q0 q1
    have f2 := text_same a0 a1 p0 p1 q0 q1
    have f3 := text_cut a0 a1 p0 p1 q0 q1
    generalize strOfNums (octets a0) = s0 at *
    generalize strOfNums (octets a1) = s1 at *
    by_cases c : a0 = a1
    · have cb : (a0 == a1) = true := by simp [c]
      clear c f3
      by_cases hz : s1.size < s0.size
      · go_wp2_with fail
        go_quiet (fail)
        go_wp2
        go_ret
        exact ⟨rfl, up_trans hbb.out (up_drewN _ _)⟩
      · go_wp2_with fail
        go_quiet (fail)
        go_wp2
        go_ret
        exact ⟨rfl, up_trans hbb.out (up_drewN _ _)⟩
    · have cb : (a0 == a1) = false := by simp [c]
      have f4 := (f3 c).1
      have f5 := (f3 c).2
      clear f3
      by_cases hz : s1.size < s0.size
      · have f6 := f4 hz
        clear f4 f5
        go_wp2_with fail
        go_quiet (fail)
        go_wp2
        go_ret
        exact ⟨rfl, up_trans hbb.out (up_drewN _ _)⟩
      · have f6 := f5 hz
        clear f4 f5
        go_wp2_with fail
        go_quiet (fail)
        go_wp2
        go_ret
        exact ⟨rfl, up_trans hbb.out (up_drewN _ _)⟩

/-! ### THE ROW's STEP: WRITTEN OUT: LEAVE IT -/
set_option maxRecDepth 100000 in
theorem lifted (os : Os) (started : os.Started) (H : Type) (enc : TypeId × Value → H) :
    ReturnsInHanded {} Try.checked os 6 .any (Rows.varintOrderSpec.pre6 enc Try.prog Try.f6 Rows.varintOrderRow.domain false) (Rows.varintOrderSpec.post enc Try.prog Try.f6 false true false false) := by
  refine returnsInHanded_of_change (C := Try.checked) own started (by kernel_rfl) Try.func6
    (ChangeSpec.witness6 (enc := enc) (C := Try.checked) false ⟨#[], #[.int .u64 0, .int .u64 0], []⟩ 8 (by kernel_rfl) (by kernel_rfl) (by kernel_rfl) (by kernel_rfl)) ?_
  intro W base args ds gs before hval0 hW hcnd _
  have hval : ∀ (j : Nat) t v, Try.f6.params[j]? = some t → args[j]? = some v → Value.okWide Try.prog W .any base t v := hval0
  have hW' := hW
  obtain ⟨p, q, hA0, hV, rfl, hfz, hnd⟩ := hW
  have hA : DataW.TrodAll enc Try.prog W 0 (fun _ => true) true Try.f6.params.toList args.toList ds p := hA0
  rw [Try.params6] at hA hval
  obtain ⟨v0, vs0, d0, ds0, p0, q0, hargs, rfl, rfl, h0, r0⟩ := trodAll_cons hA
  obtain ⟨v1, vs1, d1, ds1, p1, q1, rfl, rfl, rfl, h1, r1⟩ := trodAll_cons r0
  obtain ⟨rfl, rfl, rfl⟩ := trodAll_nil r1
  obtain rfl : args = #[v0, v1] := by cases args; simp_all
  obtain ⟨rfl, rfl⟩ := trodVars_none hV
  obtain ⟨a0, rfl, rfl, rfl, w0⟩ := open_int Try.underlying22 (hval 0 22 v0 rfl rfl) h0
  obtain ⟨a1, rfl, rfl, rfl, w1⟩ := open_int Try.underlying22 (hval 1 22 v1 rfl rfl) h1
  clear hA0 hval0
  simp only [List.append_nil] at hW'
  refine (walk a0 a1 w0 w1 W).mono fun e W' ⟨he, bel⟩ => ?_
  subst he
  exact ⟨_, rfl, _, _, _, [], _, [], hW', trodAll_mk1 (shut_bool Try.underlying4 _), (trodAll_cons_mk (shut_int Try.underlying22 w0) (trodAll_cons_mk (shut_int Try.underlying22 w1) trodAll_mk0)), rfl, bel.frame _, fun h => by cases h⟩

theorem over : Rows.varintOrderRow.holds Try.pinned (OpenSpec.ofChange Rows.varintOrderSpec) :=
  OpenClaim.holds_of_wide 6 Try.f6 rfl rfl rfl rfl rfl rfl rfl ⟨rfl, rfl, rfl, rfl, rfl⟩ rfl rfl rfl rfl rfl (by kernel_rfl) Try.func6 (by kernel_rfl)
    (of_decide_eq_true (by kernel_rfl)) (by unfold Func.isWrapper; first | (rw [if_pos (by decide +kernel)]; kernel_rfl) | (rw [if_neg (by decide +kernel)]; exact ⟨rfl, rfl⟩))
    (fun os started H enc _ => lifted os started H enc)

end Go.Proofs.Ytamamhgmijmkjaa.varintOrder

namespace Go.Proofs.Ytamamhgmijmkjaa
theorem varintOrder_holds : Rows.VarintOrderSaid := varintOrder.over
#print axioms varintOrder_holds
end Go.Proofs.Ytamamhgmijmkjaa
