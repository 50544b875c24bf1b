/- make([]int, h), h up to 8; New, the program's and the document's. -/
import Derived.Test.YtfnddbglopoghaaPAdd
import Derived.Test.YtfnddbglopoghaaPArr
import Derived.Test.YtfnddbglopoghaaMChk
import Derived.Laws.OwnMore
namespace Go.Proofs.Ytfnddbglopoghaa
open Go.RowKit
set_option linter.unusedVariables false
set_option linter.unusedSimpArgs false

def zeroC (h : Nat) : Array Value := arrI (List.replicate h 0)
theorem mk_ints (h : Nat) (hh : h ≤ 8) (w : World) : (Instr.makeSlice 37 (.int .i64 (h : Int)) (.int .i64 (h : Int))).run Try.prog w = .ok (.slice (some ⟨w.heap.size, 0, none⟩) h h) (w.alloc (.cells (zeroC h) 3)) := by
  have q0 : (Instr.makeSlice 37 (.int .i64 0) (.int .i64 0)).run Try.prog w = .ok (.slice (some ⟨w.heap.size, 0, none⟩) 0 0) (w.alloc (.cells #[] 3)) := by kernel_rfl
  have q1 : (Instr.makeSlice 37 (.int .i64 1) (.int .i64 1)).run Try.prog w = .ok (.slice (some ⟨w.heap.size, 0, none⟩) 1 1) (w.alloc (.cells #[.int .i64 0] 3)) := by kernel_rfl
  have q2 : (Instr.makeSlice 37 (.int .i64 2) (.int .i64 2)).run Try.prog w = .ok (.slice (some ⟨w.heap.size, 0, none⟩) 2 2) (w.alloc (.cells #[.int .i64 0, .int .i64 0] 3)) := by kernel_rfl
  have q3 : (Instr.makeSlice 37 (.int .i64 3) (.int .i64 3)).run Try.prog w = .ok (.slice (some ⟨w.heap.size, 0, none⟩) 3 3) (w.alloc (.cells #[.int .i64 0, .int .i64 0, .int .i64 0] 3)) := by kernel_rfl
  have q4 : (Instr.makeSlice 37 (.int .i64 4) (.int .i64 4)).run Try.prog w = .ok (.slice (some ⟨w.heap.size, 0, none⟩) 4 4) (w.alloc (.cells #[.int .i64 0, .int .i64 0, .int .i64 0, .int .i64 0] 3)) := by kernel_rfl
  have q5 : (Instr.makeSlice 37 (.int .i64 5) (.int .i64 5)).run Try.prog w = .ok (.slice (some ⟨w.heap.size, 0, none⟩) 5 5) (w.alloc (.cells #[.int .i64 0, .int .i64 0, .int .i64 0, .int .i64 0, .int .i64 0] 3)) := by kernel_rfl
  have q6 : (Instr.makeSlice 37 (.int .i64 6) (.int .i64 6)).run Try.prog w = .ok (.slice (some ⟨w.heap.size, 0, none⟩) 6 6) (w.alloc (.cells #[.int .i64 0, .int .i64 0, .int .i64 0, .int .i64 0, .int .i64 0, .int .i64 0] 3)) := by kernel_rfl
  have q7 : (Instr.makeSlice 37 (.int .i64 7) (.int .i64 7)).run Try.prog w = .ok (.slice (some ⟨w.heap.size, 0, none⟩) 7 7) (w.alloc (.cells #[.int .i64 0, .int .i64 0, .int .i64 0, .int .i64 0, .int .i64 0, .int .i64 0, .int .i64 0] 3)) := by kernel_rfl
  have q8 : (Instr.makeSlice 37 (.int .i64 8) (.int .i64 8)).run Try.prog w = .ok (.slice (some ⟨w.heap.size, 0, none⟩) 8 8) (w.alloc (.cells #[.int .i64 0, .int .i64 0, .int .i64 0, .int .i64 0, .int .i64 0, .int .i64 0, .int .i64 0, .int .i64 0] 3)) := by kernel_rfl
  have : h = 0 ∨ h = 1 ∨ h = 2 ∨ h = 3 ∨ h = 4 ∨ h = 5 ∨ h = 6 ∨ h = 7 ∨ h = 8 := by omega
  rcases this with rfl | rfl | rfl | rfl | rfl | rfl | rfl | rfl | rfl
  · exact q0
  · exact q1
  · exact q2
  · exact q3
  · exact q4
  · exact q5
  · exact q6
  · exact q7
  · exact q8
theorem flat_irow : ∀ l : List Int, (l.map irow).flatten = l.map (Value.int .i64)
  | [] => rfl
  | x :: l => by simp [irow, flat_irow l]
theorem own_made (w : World) (h : Nat) (hh : h ≤ 8) : OwnR (w.alloc (.cells (zeroC h) 3)) w.heap.size 3 1 (.slice (some ⟨w.heap.size, 0, none⟩) h h) ((List.replicate h (0 : Int)).map irow) := by
  refine ⟨fun cs hc => by obtain ⟨n, _, rfl⟩ := List.mem_map.1 hc; rfl, ?_⟩
  have := World.ownsRow_lit (base := w.heap.size) (e := 3) (size := 1) w (zeroC h) h (Nat.le_refl _) (by unfold maxLen; omega) (by simp [zeroC, arrI])
  rw [flat_irow, List.length_map, List.length_replicate]
  have e : (zeroC h).toList = (List.replicate h (0 : Int)).map (Value.int .i64) := by simp [zeroC, arrI]
  rw [e] at this
  exact this
def emptyS : Sk := ⟨[], List.replicate 8 0⟩
theorem emptyS_good : Good emptyS := by
  refine ⟨by simp [emptyS], by simp [emptyS], (fun k hk => by simp [emptyS] at hk), (fun k hk => by simp [emptyS] at hk), (fun i j hi => by simp [emptyS, Sk.es] at hi), fun l hl => ?_⟩
  show chainOK _ _ l [] _
  unfold chainOK
  show (List.replicate 8 (0 : Int)).getD l 0 = 0
  exact rep_get l
set_option maxRecDepth 100000 in
theorem new_any (w : World) : Calls Try.prog 47 #[] w fun e w' => ∃ a c a2 c2, e = .returned (.agg #[.slice a 0 c, .slice a2 8 c2]) ∧ Hid (OwnSk w' w.heap.size 107 (.slice a 0 c) (.slice a2 8 c2) emptyS []) ∧ Hid (Below w.heap.size w w') := by
  have hmk := mk_ints 8 (by omega)
  have hmk' : ∀ w : World, (Instr.makeSlice 37 (.int .i64 8) (.int .i64 8)).run Try.prog w = .ok (.slice (some ⟨w.heap.size, 0, none⟩) 8 8) (w.alloc (.cells (zeroC 8) 3)) := hmk
  clear hmk
  have HO : Hid (OwnR ((w.alloc (.cells #[.slice none 0 0, .slice (some ⟨w.heap.size + 1, 0, none⟩) 8 8] 79)).alloc (.cells (zeroC 8) 3)) w.heap.size 3 1 (.slice (some ⟨w.heap.size + 1, 0, none⟩) 8 8) ((List.replicate 8 (0 : Int)).map irow)) := by
    have := own_made (w.alloc (.cells #[.slice none 0 0, .slice (some ⟨w.heap.size + 1, 0, none⟩) 8 8] 79)) 8 (by omega)
    have e : (w.alloc (.cells #[.slice none 0 0, .slice (some ⟨w.heap.size + 1, 0, none⟩) 8 8] 79)).heap.size = w.heap.size + 1 := by simp
    rw [e] at this
    exact this.mono (by omega)
  go_enter Try.func47, Try.ntmps47
  go_wp2_with fail
  refine bodyPost_ret (results_st rfl (.inl rfl) _ _ rfl (blk_up (blk_new w _) (up_alloc _ _))) rfl ?_
  refine ⟨_, _, _, _, rfl, ⟨rfl, OwnR.nil _ _ _ _, HO.out, (fun k p hk => by simp at hk), by simp⟩, up_al (up_al (Below.refl _ _) _) _⟩
end Go.Proofs.Ytfnddbglopoghaa
