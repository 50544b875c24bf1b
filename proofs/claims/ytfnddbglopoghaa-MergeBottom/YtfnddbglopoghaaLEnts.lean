/- Slices of versions: held against each other. -/
import Derived.Test.YtfnddbglopoghaaLInts
namespace Go.Proofs.Ytfnddbglopoghaa
open Go.RowKit
set_option linter.unusedVariables false

/-- The slice v holds in w the versions l. -/
def EntsR (w : World) (v : Value) (l : List En) : Prop := Rws 4 w v (l.map enRow)
theorem EntsR.up {w w' : World} {v : Value} {l : List En} (h : EntsR w v l) (hb : Below w.heap.size w w') : EntsR w' v l := Rws.up h hb
theorem EntsR.len {w : World} {v : Value} {l : List En} (h : EntsR w v l) : ∃ a cap, v = .slice a l.length cap ∧ l.length ≤ cap ∧ cap ≤ maxLen := by
  obtain ⟨a, c, e, h1, h2⟩ := Rws.len h
  simp only [List.length_map] at e h1
  exact ⟨a, c, e, h1, h2⟩
theorem EntsR.at {w : World} {v : Value} {l : List En} (h : EntsR w v l) (k : Nat) (hk : k < l.length) :
    ∃ b off cap n, v = .slice (some ⟨b, off, none⟩) l.length cap ∧ l[k]? = some n ∧ w.cell? ⟨b, off + k * 4, none⟩ = some (.string n.key) ∧ w.cell? ⟨b, off + k * 4 + 1, none⟩ = some (.int .i64 n.seq) ∧ w.cell? ⟨b, off + k * 4 + 2, none⟩ = some (.int .i64 n.kind) ∧ w.cell? ⟨b, off + k * 4 + 3, none⟩ = some (.string n.val) := by
  obtain ⟨b, off, cap, e, _, _, hc⟩ := Rws.at h k (by simpa using hk)
  simp only [List.length_map] at e
  have hg : (l.map enRow).getD k [] = enRow l[k] := by simp [List.getD, hk]
  rw [hg] at hc
  refine ⟨b, off, cap, l[k], e, by simp [hk], ?_, ?_, ?_, ?_⟩
  · simpa using hc 0 _ rfl
  · simpa using hc 1 _ rfl
  · simpa using hc 2 _ rfl
  · simpa using hc 3 _ rfl

set_option maxHeartbeats 1000000 in
set_option maxRecDepth 100000 in
theorem sameEnts_self (l : List En) (v u : Value) (w : World) (hv : EntsR w v l) (hu : EntsR w u l) :
    Calls Try.prog 16 #[v, u] w fun e w' => e = .returned (.bool true) ∧ ∃ d, w' = w.drewN d := by
  have HV : Hid (EntsR w v l) := hv
  have HU : Hid (EntsR w u l) := hu
  obtain ⟨a1, c1, rfl, g1, m1⟩ := hv.len
  obtain ⟨a2, c2, rfl, g2, m2⟩ := hu.len
  have hl63 : l.length ≤ 9223372036854775807 := by unfold maxLen at m1; omega
  clear hv hu g1 g2 m1 m2
  go_enter Try.func16, Try.ntmps16
  go_wp2_with fail
  go_loopw [5] (fun i wr => ∃ (k d : Nat), k ≤ l.length ∧ i = .int .i64 k ∧ wr = w.drewN d) (fun i _ => l.length - (intOf i).toNat)
  case atStart => exact ⟨0, 0, Nat.zero_le _, rfl, rfl⟩
  case round =>
    obtain ⟨k, d, hk, rfl, rfl⟩ := hrel
    by_cases hlt : k < l.length
    · have hlt' : (k : Int) < (l.length : Int) := by omega
      obtain ⟨b, off, cap, x, e, hx, x0, x1, x2, x3⟩ := HV.out.at k hlt
      obtain ⟨b', off', cap', y, e', hy, y0, y1, y2, y3⟩ := HU.out.at k hlt
      simp at e e'
      obtain ⟨rfl, rfl⟩ := e
      obtain ⟨rfl, rfl⟩ := e'
      obtain rfl : x = y := by rw [hx] at hy; simpa using hy
      clear hx hy
      go_wp2_with fail
      go_quiet (fail)
      go_wp2_with fail
      exact ⟨⟨k + 1, d + nq, by omega, by go_num, rfl⟩, by simp [intOf]; omega⟩
    · have hlt' : ¬ (k : Int) < (l.length : Int) := by omega
      go_wp2_with fail
      go_ret
      exact ⟨rfl, d, rfl⟩
end Go.Proofs.Ytfnddbglopoghaa
