/- Leaves of layer 6: why a change may not be, of which kind it is; changes in memory. -/
import Derived.Test.YtgphkddcfcmaiaaWMath
import Derived.Test.YtgphkddcfcmaiaaRBase
import Derived.Lib.AppendStr
namespace Go.Proofs.Ytgphkddcfcmaiaa
open Go.RowKit SumPlain
set_option linter.unusedVariables false

/-- A change as a value, and its cells. -/
def chgV (c : Chg) : Value := .agg #[.string c.key, .bool c.del, .string c.val]
def crow (c : Chg) : List Value := [.string c.key, .bool c.del, .string c.val]

theorem str_empty (s : ByteArray) (h : s.size = 0) : s.toList = [] := by
  rw [bytes_nil s h, str_list]; rfl
theorem str_full (s : ByteArray) (h : ¬ s.size = 0) : ¬ s.toList = [] := by
  intro e
  apply h
  rw [← str_nums s, str_list] at e
  have e2 : nums s = [] := by simpa using e
  rw [← nums_length, e2]; rfl

set_option maxHeartbeats 1000000 in
theorem chkChange_any (c : Chg) (w : World) : Calls Try.prog 40 #[.agg #[.string c.key, .bool c.del, .string c.val]] w fun e w' => e = .returned (.int .i64 (chgErr c)) ∧ Below w.heap.size w w' := by
  obtain ⟨k, d, v⟩ := c
  simp only
  unfold chgErr
  simp only
  by_cases h1 : k.size < 1
  · have a1 : (k.size : Int) < 1 := by omega
    rw [if_pos (.inl h1)]
    go_enter Try.func40, Try.ntmps40
    go_wp2
    go_ret
    exact ⟨rfl, up_alloc _ _⟩
  have a1 : ¬ (k.size : Int) < 1 := by omega
  by_cases h2 : 96 < k.size
  · have a2 : (96 : Int) < (k.size : Int) := by omega
    rw [if_pos (.inr h2)]
    go_enter Try.func40, Try.ntmps40
    go_wp2
    go_ret
    exact ⟨rfl, up_alloc _ _⟩
  have a2 : ¬ (96 : Int) < (k.size : Int) := by omega
  rw [if_neg (by omega)]
  by_cases h3 : 512 < v.size
  · have a3 : (512 : Int) < (v.size : Int) := by omega
    rw [if_pos h3]
    go_enter Try.func40, Try.ntmps40
    go_wp2
    go_ret
    exact ⟨rfl, up_alloc _ _⟩
  have a3 : ¬ (512 : Int) < (v.size : Int) := by omega
  rw [if_neg h3]
  cases d with
  | false =>
    rw [if_neg (by simp)]
    go_enter Try.func40, Try.ntmps40
    go_wp2
    go_ret
    exact ⟨rfl, up_alloc _ _⟩
  | true =>
    by_cases h4 : v.size = 0
    · have b1 := str_empty v h4
      have b2 : (v.toList == []) = true := by rw [b1]; rfl
      rw [if_neg (by simp [h4])]
      go_enter Try.func40, Try.ntmps40
      go_wp2
      go_ret
      exact ⟨rfl, up_alloc _ _⟩
    · have b1 := str_full v h4
      have b2 : (v.toList == []) = false := by simp [b1]
      rw [if_pos ⟨rfl, h4⟩]
      go_enter Try.func40, Try.ntmps40
      go_wp2
      go_ret
      exact ⟨rfl, up_alloc _ _⟩

theorem kindOf_any (c : Chg) (w : World) : Calls Try.prog 32 #[.agg #[.string c.key, .bool c.del, .string c.val]] w fun e w' => e = .returned (.int .i64 (kindN c)) ∧ Below w.heap.size w w' := by
  obtain ⟨k, d, v⟩ := c
  unfold kindN
  simp only
  cases d with
  | false =>
    go_enter Try.func32, Try.ntmps32
    go_wp2
    go_ret
    exact ⟨rfl, up_alloc _ _⟩
  | true =>
    go_enter Try.func32, Try.ntmps32
    go_wp2
    go_ret
    exact ⟨rfl, up_alloc _ _⟩

theorem num_any (n : Int) (w : World) : Calls Try.prog 18 #[.int .i64 n] w fun e w' => e = .returned (.int .i64 n) ∧ w' = w := by
  go_enter Try.func18, Try.ntmps18
  go_wp2
  go_ret
  exact ⟨rfl, rfl⟩

/-- A slice of changes is read as these. -/
def ChgsR (w : World) (v : Value) (cs : List Chg) : Prop := Rws 3 w v (cs.map crow)
theorem ChgsR.up {w w' : World} {v : Value} {cs : List Chg} (h : ChgsR w v cs) (hb : Below w.heap.size w w') : ChgsR w' v cs := Rws.up h hb
theorem ChgsR.len {w : World} {v : Value} {cs : List Chg} (h : ChgsR w v cs) : ∃ a cap, v = .slice a cs.length cap ∧ cs.length ≤ cap ∧ cap ≤ maxLen := by
  obtain ⟨a, cap, e, h1, h2⟩ := Rws.len h
  rw [List.length_map] at e h1
  exact ⟨a, cap, e, h1, h2⟩
theorem ChgsR.at {w : World} {v : Value} {cs : List Chg} (h : ChgsR w v cs) (k : Nat) (hk : k < cs.length) :
    ∃ b off cap c, v = .slice (some ⟨b, off, none⟩) cs.length cap ∧ cs.length ≤ cap ∧ cap ≤ maxLen ∧ cs[k]? = some c ∧ w.cell? ⟨b, off + k * 3, none⟩ = some (.string c.key) ∧ w.cell? ⟨b, off + k * 3 + 1, none⟩ = some (.bool c.del) ∧ w.cell? ⟨b, off + k * 3 + 2, none⟩ = some (.string c.val) := by
  obtain ⟨b, off, cap, e, h1, h2, hc⟩ := Rws.at h k (by rw [List.length_map]; exact hk)
  rw [List.length_map] at e h1
  obtain ⟨c, hcs⟩ : ∃ c, cs[k]? = some c := ⟨_, List.getElem?_eq_getElem hk⟩
  have hg : (cs.map crow).getD k [] = crow c := by simp [List.getD, hcs]
  rw [hg] at hc
  exact ⟨b, off, cap, c, e, h1, h2, hcs, hc 0 _ rfl, hc 1 _ rfl, hc 2 _ rfl⟩
end Go.Proofs.Ytgphkddcfcmaiaa
