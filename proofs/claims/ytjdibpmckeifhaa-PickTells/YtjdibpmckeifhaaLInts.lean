/- Slices of numbers: held against each other, copied. -/
import Derived.Test.YtjdibpmckeifhaaLBase
namespace Go.Proofs.Ytjdibpmckeifhaa
open Go.RowKit
set_option linter.unusedVariables false

def irow (n : Int) : List Value := [.int .i64 n]
/-- The slice v holds in w the numbers l. -/
def IntsR (w : World) (v : Value) (l : List Int) : Prop := Rws 1 w v (l.map irow)
theorem IntsR.up {w w' : World} {v : Value} {l : List Int} (h : IntsR w v l) (hb : Below w.heap.size w w') : IntsR w' v l := Rws.up h hb
theorem IntsR.len {w : World} {v : Value} {l : List Int} (h : IntsR w v l) : ∃ a cap, v = .slice a l.length cap ∧ l.length ≤ cap ∧ cap ≤ maxLen := by
  obtain ⟨a, c, e, h1, h2⟩ := Rws.len h
  simp only [List.length_map] at e h1
  exact ⟨a, c, e, h1, h2⟩
theorem IntsR.at {w : World} {v : Value} {l : List Int} (h : IntsR w v l) (k : Nat) (hk : k < l.length) :
    ∃ b off cap n, v = .slice (some ⟨b, off, none⟩) l.length cap ∧ l[k]? = some n ∧ w.cell? ⟨b, off + k, none⟩ = some (.int .i64 n) := by
  obtain ⟨b, off, cap, e, _, _, hc⟩ := Rws.at h k (by simpa using hk)
  simp only [List.length_map] at e
  refine ⟨b, off, cap, l[k], e, by simp [hk], ?_⟩
  have := hc 0 (.int .i64 l[k]) (by simp [List.getD, hk, irow])
  simpa using this

theorem drewN_more (w : World) (d n : Nat) : (w.drewN d).drewN n = w.drewN (d + n) := by
  simp [World.drewN, Nat.add_assoc]

set_option maxRecDepth 100000 in
theorem sameInts_any (l m : List Int) (v u : Value) (w : World) (hv : IntsR w v l) (hu : IntsR w u m) :
    Calls Try.prog 15 #[v, u] w fun e w' => e = .returned (.bool (decide (l = m))) ∧ ∃ d, w' = w.drewN d := by
  have HV : Hid (IntsR w v l) := hv
  have HU : Hid (IntsR w u m) := hu
  obtain ⟨a1, c1, rfl, g1, m1⟩ := hv.len
  obtain ⟨a2, c2, rfl, g2, m2⟩ := hu.len
  have hl63 : l.length ≤ 9223372036854775807 := by unfold maxLen at m1; omega
  clear hv hu g1 g2 m1 m2
  by_cases hlen : (l.length : Int) = (m.length : Int)
  · have HLN : Hid (l.length = m.length) := by unfold Hid; omega
    have hb : ((l.length : Int) == (m.length : Int)) = true := by simpa using hlen
    clear hlen
    go_enter Try.func15, Try.ntmps15
    go_wp2_with fail
    go_loopw [5] (fun i wr => ∃ (k d : Nat), k ≤ l.length ∧ i = .int .i64 k ∧ Hid (l.take k = m.take k) ∧ wr = w.drewN d) (fun i _ => l.length - (intOf i).toNat)
    case atStart => exact ⟨0, 0, Nat.zero_le _, rfl, rfl, rfl⟩
    case round =>
      obtain ⟨k, d, hk, rfl, HT, rfl⟩ := hrel
      by_cases hlt : k < l.length
      · have hlt' : (k : Int) < (l.length : Int) := by omega
        have hltm : (k : Int) < (m.length : Int) := by have := HLN.out; omega
        obtain ⟨b, off, cap, x, e, hx, z0⟩ := HV.out.at k hlt
        obtain ⟨b', off', cap', y, e', hy, z1⟩ := HU.out.at k (by omega)
        simp at e e'
        obtain ⟨rfl, rfl⟩ := e
        obtain ⟨rfl, rfl⟩ := e'
        by_cases hxy : x = y
        · subst hxy
          have HT2 : Hid (l.take (k + 1) = m.take (k + 1)) := by unfold Hid; rw [List.take_add_one, List.take_add_one, HT.out, hx, hy]
          clear hx hy HT
          go_wp2_with fail
          go_quiet (fail)
          go_wp2_with fail
          exact ⟨⟨k + 1, d + nq, by omega, by go_num, HT2, rfl⟩, by simp [intOf]; omega⟩
        · have HF : Hid (decide (l = m) = false) := by
            unfold Hid
            simp only [decide_eq_false_iff_not]
            intro h
            subst h
            rw [hx] at hy
            exact hxy (by simpa using hy)
          have hxy' : (x == y) = false := by simpa using hxy
          clear hx hy HT
          go_wp2_with fail
          go_quiet (fail)
          go_wp2_with fail
          go_ret
          exact ⟨ret_bool HF.out.symm, d + nq, drewN_more _ _ _⟩
      · have hlt' : ¬ (k : Int) < (l.length : Int) := by omega
        have HE : Hid (decide (l = m) = true) := by
          unfold Hid
          have h := HT.out
          rw [List.take_of_length_le (by omega), List.take_of_length_le (by have := HLN.out; omega)] at h
          simpa using h
        clear HT
        go_wp2_with fail
        go_ret
        exact ⟨ret_bool HE.out.symm, d, rfl⟩
  · have HF : Hid (decide (l = m) = false) := by
      unfold Hid
      simp only [decide_eq_false_iff_not]
      intro h
      subst h
      exact hlen rfl
    go_enter Try.func15, Try.ntmps15
    go_wp2
    go_ret
    exact ⟨ret_bool HF.out.symm, 0, rfl⟩
theorem one_int (l : List Int) : ∀ cs ∈ l.map irow, ∀ u ∈ cs, u.oneCell' = true := by
  intro cs h u hu
  simp only [List.mem_map] at h
  obtain ⟨n, _, rfl⟩ := h
  simp only [irow, List.mem_singleton] at hu
  subst hu
  rfl
theorem Try.info3 : (Try.prog.info? 3).map (fun i => (i.zero, i.size, i.bytes)) = some (some (.int .i64 0), 1, 8) := by kernel_rfl

end Go.Proofs.Ytjdibpmckeifhaa
