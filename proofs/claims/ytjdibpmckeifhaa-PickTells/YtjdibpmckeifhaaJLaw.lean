/- The law's in and num. -/
import Derived.Test.YtjdibpmckeifhaaJAt
import Derived.Test.YtjdibpmckeifhaaLInts
namespace Go.Proofs.Ytjdibpmckeifhaa
open Go.RowKit
set_option linter.unusedVariables false
set_option linter.unusedSimpArgs false

set_option maxHeartbeats 4000000 in
set_option maxRecDepth 100000 in
theorem in_any (l : List Int) (n : Int) (v : Value) (w : World) (hv : IntsR w v l) :
    Calls Try.prog 21 #[v, .int .i64 n] w fun e w' => e = .returned (.bool (decide (n ∈ l))) ∧ w' = w := by
  have HV : Hid (IntsR w v l) := hv
  obtain ⟨a1, c1, rfl, g1, m1⟩ := hv.len
  have hl63 : l.length ≤ 9223372036854775807 := by unfold maxLen at m1; omega
  clear hv g1 m1
  obtain ⟨R, hR⟩ : ∃ R, R = decide (n ∈ l) := ⟨_, rfl⟩
  have HR : Hid (R = decide (n ∈ l)) := hR
  rw [← hR]
  clear hR
  go_enter Try.func21, Try.ntmps21
  go_wp2_with fail
  go_loopw [5] (fun i wr => ∃ (k : Nat), k ≤ l.length ∧ i = .int .i64 k ∧ Hid (n ∉ l.take k) ∧ wr = w) (fun i _ => l.length - (intOf i).toNat)
  case atStart => exact ⟨0, Nat.zero_le _, rfl, by simp [Hid], rfl⟩
  case round =>
    obtain ⟨k, hk, rfl, HK, rfl⟩ := hrel
    by_cases hlt : k < l.length
    · have hlt' : (k : Int) < (l.length : Int) := by omega
      obtain ⟨b, off, cap, x, e, hx, x0⟩ := HV.out.at k hlt
      simp only [Value.slice.injEq] at e
      obtain ⟨rfl, _, rfl⟩ := e
      by_cases hq : x = n
      · have hq' : (x == n) = true := by simp [hq]
        have HF : Hid (decide (n ∈ l) = true) := by
          unfold Hid
          rw [decide_eq_true_eq, ← hq]
          exact List.mem_of_getElem? hx
        rw [HF.out] at HR
        clear hx hq
        go_wp2_with fail
        go_ret
        exact ⟨ret_bool HR.out.symm, rfl⟩
      · have hq' : (x == n) = false := by simp [hq]
        have HK2 : Hid (n ∉ l.take (k + 1)) := by
          unfold Hid
          rw [List.take_add_one, hx]
          simp only [Option.toList_some, List.mem_append, List.mem_singleton]
          rintro (q | q)
          · exact HK.out q
          · exact hq q.symm
        clear hx hq HK
        go_wp2_with fail
        exact ⟨⟨k + 1, by omega, by go_num, HK2, trivial⟩, by simp [intOf]; omega⟩
    · have hlt' : ¬ (k : Int) < (l.length : Int) := by omega
      obtain rfl : k = l.length := by omega
      have HF : Hid (decide (n ∈ l) = false) := by
        unfold Hid
        rw [decide_eq_false_iff_not]
        have := HK.out
        rwa [List.take_length] at this
      rw [HF.out] at HR
      clear HK
      go_wp2_with fail
      go_ret
      exact ⟨ret_bool HR.out.symm, rfl⟩
set_option maxRecDepth 100000 in
theorem num_any (n : Int) (w : World) : Calls Try.prog 16 #[.int .i64 n] w fun e w' => e = .returned (.int .i64 n) ∧ w' = w := by
  go_enter Try.func16, Try.ntmps16
  go_wp2
  go_ret
  exact ⟨rfl, rfl⟩
end Go.Proofs.Ytjdibpmckeifhaa
