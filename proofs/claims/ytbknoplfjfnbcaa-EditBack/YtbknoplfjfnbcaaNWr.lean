/- The program's writable: may all the numbers be written? -/
import Derived.Test.YtbknoplfjfnbcaaEOct
import Derived.Test.YtbknoplfjfnbcaaALeaf
import Derived.Test.YtbknoplfjfnbcaaLInts
namespace Go.Proofs.Ytbknoplfjfnbcaa
open Go.RowKit
set_option linter.unusedVariables false
set_option linter.unusedSimpArgs false

theorem not_any (n : Int) (w : World) : Calls Try.prog 74 #[.int .i64 n] w fun e w' => e = .returned (.bool (!numE n)) ∧ w' = w := by
  have H := hid (within_any n 0 1099511627776 w)
  have e : decide (0 ≤ n ∧ n ≤ 1099511627776) = numE n := rfl
  rw [e] at H
  clear e
  generalize numE n = b at *
  go_enter Try.func74, Try.ntmps74
  go_wp2_with fail
  refine H.out.mono ?_
  rintro e w' ⟨rfl, rfl⟩
  go_wp2_with fail
  go_ret
  exact ⟨rfl, rfl⟩

theorem all_goes {l : List Int} {k : Nat} {x : Int} (h : (l.take k).all numE = true) (hx : l[k]? = some x) (hn : numE x = true) : (l.take (k + 1)).all numE = true := by
  rw [List.take_add_one, hx, List.all_append, h]
  simp [hn]
theorem all_not {l : List Int} {k : Nat} {x : Int} (hx : l[k]? = some x) (hn : numE x = false) : l.all numE = false := by
  rw [List.all_eq_false]
  exact ⟨x, List.mem_of_getElem? hx, by simp [hn]⟩

set_option maxRecDepth 100000 in
theorem index83_any (l : List Int) (v : Value) (w : World) (hv : IntsR w v l) :
    Calls Try.prog 83 #[v, .func (.func 74) #[] #[]] w fun e w' => (∃ r : Int, e = .returned (.int .i64 r) ∧ Hid (decide (0 ≤ r) = !(l.all numE))) ∧ w' = w := by
  have HV : Hid (IntsR w v l) := hv
  obtain ⟨a1, c1, rfl, g1, m1⟩ := hv.len
  clear hv
  have hl63 : (l.length : Int) ≤ 9223372036854775807 := by unfold maxLen at m1; omega
  clear g1 m1
  go_enter Try.func83, Try.ntmps83
  go_wp2_with fail
  go_loopw [8] (fun i wr => ∃ k : Nat, k ≤ l.length ∧ i = .int .i64 k ∧ Hid ((l.take k).all numE = true) ∧ wr = w) (fun i _ => l.length - (intOf i).toNat)
  case atStart => exact ⟨0, Nat.zero_le _, rfl, by simp [Hid], rfl⟩
  case round =>
    obtain ⟨k, hk, rfl, HA, rfl⟩ := hrel
    by_cases hlt : k < l.length
    · have hlt' : (k : Int) < (l.length : Int) := by omega
      obtain ⟨b, off, cap, x, e, hx, x0⟩ := HV.out.at k hlt
      simp at e
      obtain ⟨rfl, rfl⟩ := e
      have HX : Hid (l[k]? = some x) := hx
      clear hx
      have HN := hid (not_any x wr)
      cases hp : numE x
      · have HF := hid (all_not HX.out hp)
        rw [hp] at HN
        have hk0 : (0 : Int) ≤ (k : Int) := by omega
        go_wp2_with fail
        refine HN.out.mono ?_
        rintro e w' ⟨rfl, rfl⟩
        go_wp2_with fail
        go_ret
        exact ⟨⟨k, rfl, by rw [HF.out]; simp [Hid]⟩, rfl⟩
      · have HA' := hid (all_goes HA.out HX.out hp)
        rw [hp] at HN
        go_wp2_with fail
        refine HN.out.mono ?_
        rintro e w' ⟨rfl, rfl⟩
        go_wp2_with fail
        exact ⟨⟨k + 1, by omega, by go_num, HA', by first | rfl | trivial⟩, by simp [intOf]; omega⟩
    · have hlt' : ¬ (k : Int) < (l.length : Int) := by omega
      obtain rfl : k = l.length := by omega
      rw [List.take_length] at HA
      go_wp2_with fail
      go_ret
      exact ⟨⟨-1, rfl, by rw [HA.out]; simp [Hid]⟩, rfl⟩

theorem contains_any (l : List Int) (v : Value) (w : World) (hv : IntsR w v l) :
    Calls Try.prog 73 #[v, .func (.func 74) #[] #[]] w fun e w' => e = .returned (.bool (!(l.all numE))) ∧ w' = w := by
  have H := hid (index83_any l v w hv)
  clear hv
  generalize l.all numE = b at *
  go_enter Try.func73, Try.ntmps73
  go_wp2_with fail
  refine H.out.mono ?_
  rintro e w' ⟨⟨r, rfl, hr⟩, rfl⟩
  by_cases h0 : 0 ≤ r
  · have hb : (!b) = true := by rw [← hr.out]; simp [h0]
    obtain rfl : b = false := by simpa using hb
    clear hb hr
    go_wp2_with fail
    go_ret
    exact ⟨rfl, rfl⟩
  · have hb : (!b) = false := by rw [← hr.out]; simp [h0]
    obtain rfl : b = true := by simpa using hb
    clear hb hr
    have h1 : r < 0 := by omega
    go_wp2_with fail
    go_ret
    exact ⟨by first | rfl | (simp [h0]; done) | (simp [h1]; done) | (simp; omega), rfl⟩

theorem writable_any (l : List Int) (v : Value) (w : World) (hv : IntsR w v l) :
    Calls Try.prog 54 #[v] w fun e w' => e = .returned (.bool (l.all numE)) ∧ w' = w := by
  have H := hid (contains_any l v w hv)
  clear hv
  generalize l.all numE = b at *
  go_enter Try.func54, Try.ntmps54
  go_wp2_with fail
  refine H.out.mono ?_
  rintro e w' ⟨rfl, rfl⟩
  go_wp2_with fail
  go_ret
  cases b <;> exact ⟨rfl, rfl⟩
end Go.Proofs.Ytbknoplfjfnbcaa
