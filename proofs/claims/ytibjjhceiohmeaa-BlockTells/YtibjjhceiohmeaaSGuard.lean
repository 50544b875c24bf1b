/- Guard of the program: the octets and, behind them, their sum's four. -/
import Derived.Test.YtibjjhceiohmeaaSOctets
import Derived.Deep.AppendLies
namespace Go.Proofs.Ytibjjhceiohmeaa
open Go.RowKit SumPlain
set_option linter.unusedVariables false

/-- What is guarded. -/
def guardOf (l : List Int) : List Int := l ++ lastL (ext ones l)

theorem guard_len (l : List Int) : (guardOf l).length = l.length + 4 := by simp [guardOf, lastL_len]

theorem guard_octet (l : List Int) (h : ∀ x ∈ l, 0 ≤ x ∧ x ≤ 255) : ∀ x ∈ guardOf l, 0 ≤ x ∧ x ≤ 255 := by
  intro x hx
  rcases List.mem_append.1 hx with h1 | h1
  · exact h x h1
  · exact lastL_octet _ x h1

set_option maxHeartbeats 1000000 in
theorem guard_any (l : List Int) (v : Value) (w : World) (hv : Octs w v l) (hl : l.length ≤ 140737488351232) :
    Calls Try.prog 26 #[v] w fun e w' => ∃ v', e = .returned v' ∧ OwnB w' w.heap.size v' (guardOf l) ∧ Below w.heap.size w w' := by
  have HV : Hid (Octs w v l) := hv
  obtain ⟨a, cap, rfl, hcap, hmax⟩ := hv.len
  clear hv hmax hcap
  obtain ⟨x0, x1, x2, x3, hx, b0, b1, b2, b3⟩ := lastL_four (ext ones l)
  have HG : Hid (guardOf l = l ++ [x0, x1, x2, x3]) := by unfold Hid guardOf; rw [hx]
  have hmk : ∀ w : World, (Instr.makeSlice 23 (.int .i64 0) (.int .i64 ((l.length : Int) + 4))).run Try.prog w = .ok (.slice (some ⟨w.heap.size, 0, none⟩) 0 (l.length + 4)) (w.alloc (.cells (madeCells #[.int .u8 0] (l.length + 4)) 5)) := by
    intro w
    obtain ⟨i0, hi, hz0, hz1, hz2⟩ := info_some Try.info5
    have := run_make (P := Try.prog) w 23 5 i0 (.int .u8 0) Try.underlying23 hi hz0 .i64 .i64 0 ((l.length : Int) + 4) (Int.le_refl _) (by omega) (by rw [hz2]; omega) (by omega)
    rw [hz1] at this
    have e : ((l.length : Int) + 4).toNat = l.length + 4 := by omega
    rw [e] at this
    simpa [Value.cells] using this
  have HX : Hid (lastL (ext ones l) = [x0, x1, x2, x3]) := hx
  clear hx
  have HV2 : Hid (∀ o1 o2 o3 o4, Octs ((((w.alloc o1).alloc o2).alloc o3).alloc o4) (.slice a l.length cap) l) := fun o1 o2 o3 o4 => HV.out.up (up_al (up_al (up_al (up_al (Below.refl _ _) o1) o2) o3) o4)
  have HOwn : Hid (∀ o1 o2 o3, OwnB ((((w.alloc o1).alloc o2).alloc o3).alloc (.cells (madeCells #[.int .u8 0] (l.length + 4)) 5)) w.heap.size (.slice (some ⟨w.heap.size + 1 + 1 + 1, 0, none⟩) 0 (l.length + 4)) []) := by
    intro o1 o2 o3
    have := World.ownsRow_made (base := w.heap.size) (e := 5) (size := 1) (((w.alloc o1).alloc o2).alloc o3) (madeCells #[.int .u8 0] (l.length + 4)) (l.length + 4) (by simp; omega) (by unfold maxLen; omega) (by rw [size_madeCells]; omega)
    unfold OwnB
    simpa using this
  have HLast : Hid (∀ o1 o2 o4 wx, ((((w.alloc o1).alloc o2).alloc (.cells #[.int .u8 x0, .int .u8 x1, .int .u8 x2, .int .u8 x3] 71)).alloc o4).drew.grownBy wx (some (w.heap.size + 1 + 1 + 1)) → Octs wx (.slice (some ⟨w.heap.size + 1 + 1, 0, none⟩) 4 4) [x0, x1, x2, x3]) := by
    intro o1 o2 o4 wx hg
    refine ⟨by simp [b0, b1, b2, b3], .inr ⟨by simp, w.heap.size + 1 + 1, 0, 4, rfl, by simp, by unfold maxLen; omega, fun j x hj => ?_⟩⟩
    rw [hg.cell_far ⟨w.heap.size + 1 + 1, 0 + j, none⟩ (by simp) (by simp)]
    have e := cells_new ((w.alloc o1).alloc o2) [.int .u8 x0, .int .u8 x1, .int .u8 x2, .int .u8 x3] [] 71 j (.int .u8 x) (by
      have : ([.int .u8 x0, .int .u8 x1, .int .u8 x2, .int .u8 x3] : List Value) = [x0, x1, x2, x3].map (Value.int .u8) := rfl
      rw [this, List.getElem?_map, hj]
      rfl)
    rw [Addr.add_lit] at e
    have hb := up_al (Below.refl (((w.alloc o1).alloc o2).alloc (.cells #[.int .u8 x0, .int .u8 x1, .int .u8 x2, .int .u8 x3] 71)).heap.size _) o4
    have hc := hb.cell (p := ⟨w.heap.size + 1 + 1, 0 + j, none⟩) (by simp)
    exact hc.trans (by simpa using e)
  go_enter Try.func26, Try.ntmps26
  go_wp2_with fail
  refine (sum_any l _ _ HV.out).mono ?_
  rintro e w1 ⟨rfl, rfl⟩
  go_wp2_with fail
  refine (octets_any _ x0 x1 x2 x3 HX.out _).mono ?_
  rintro e w2 ⟨rfl, rfl⟩
  go_wp2_with fail
  go_region_held3 (fun _ => True) (trivial) (first
    | (refine step_append_octs _ (by rfl) _ _ (by rfl) w1.heap.size (.slice (some ⟨w1.heap.size + 1 + 1 + 1, 0, none⟩) 0 (l.length + 4)) [] (by rfl) (HOwn.out _ _ _) (.slice a l.length cap) l (by rfl) (HV2.out _ _ _ _) (by simp; omega) (by simp; omega) ?_; intro v3 w3 hown3 hg3)
    | (refine step_append_octs _ (by rfl) _ _ (by rfl) w1.heap.size v3 ([] ++ l) (by rfl) hown3 (.slice (some ⟨w1.heap.size + 1 + 1, 0, none⟩) 4 4) [x0, x1, x2, x3] (by rfl) (HLast.out _ _ _ _ hg3) (by simp; omega) (by have := hg3.size; simp at this; omega) ?_; intro v4 w4 hown4 hg4))
  go_wp2
  go_ret
  refine ⟨_, rfl, ?_, ?_⟩
  · rw [HG.out]
    exact hown4
  · have h4 := up_dr (up_al (up_al (up_al (up_al (Below.refl w1.heap.size w1) (.cells #[.int .u8 x0, .int .u8 x1, .int .u8 x2, .int .u8 x3] 71)) (.cells #[.int .u8 x0, .int .u8 x1, .int .u8 x2, .int .u8 x3] 71)) (.cells #[.int .u8 x0, .int .u8 x1, .int .u8 x2, .int .u8 x3] 71)) (.cells (madeCells #[.int .u8 0] (l.length + 4)) 5))
    refine (h4.grown hg3 h4.size ?_).grown hg4 (Nat.le_trans h4.size hg3.size) (fun k hk => (hown3.lt k hk).1)
    intro k hk
    simp [Value.ownBlock] at hk
    omega
end Go.Proofs.Ytibjjhceiohmeaa
