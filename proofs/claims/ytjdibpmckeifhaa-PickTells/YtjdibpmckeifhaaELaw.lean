/- The law's own leaves of layer 11: metas copied and held against each other. -/
import Derived.Test.YtjdibpmckeifhaaEChk
namespace Go.Proofs.Ytjdibpmckeifhaa
open Go.RowKit
set_option linter.unusedVariables false
set_option linter.unusedSimpArgs false

theorem Try.info52 : (Try.prog.info? 52).map (fun i => (i.zero, i.size, i.bytes)) = some (some (.agg #[.int .i64 0, .int .i64 0, .int .i64 0, .string ⟨#[]⟩, .string ⟨#[]⟩]), 5, 56) := by kernel_rfl
theorem Try.info70 : (Try.prog.info? 70).map (fun i => (i.zero, i.size, i.bytes)) = some (some (.agg #[.int .i64 0, .int .i64 0, .int .i64 0, .string ⟨#[]⟩, .string ⟨#[]⟩]), 5, 56) := by kernel_rfl
theorem meRow_one (y : Me) : ∀ u ∈ meRow y, u.oneCell' = true := by
  intro u hu
  simp only [meRow, List.mem_cons, List.mem_nil_iff, or_false] at hu
  rcases hu with rfl | rfl | rfl | rfl | rfl <;> rfl
theorem meRow_len (y : Me) : (meRow y).length = 5 := rfl

set_option maxHeartbeats 1000000 in
set_option maxRecDepth 100000 in
theorem sameMetas_self (l : List Me) (v u : Value) (w : World) (hv : MetsR w v l) (hu : MetsR w u l) :
    Calls Try.prog 35 #[v, u] w fun e w' => e = .returned (.bool true) ∧ ∃ d, w' = w.drewN d := by
  have HV : Hid (MetsR w v l) := hv
  have HU : Hid (MetsR w u l) := hu
  obtain ⟨a1, c1, rfl, g1, m1⟩ := hv.len
  obtain ⟨a2, c2, rfl, g2, m2⟩ := hu.len
  have hl63 : l.length ≤ 9223372036854775807 := by unfold maxLen at m1; omega
  clear hv hu g1 g2 m1 m2
  go_enter Try.func35, Try.ntmps35
  go_wp2_with fail
  go_loopw [5] (fun i wr => ∃ (k d : Nat), k ≤ l.length ∧ i = .int .i64 k ∧ wr = w.drewN d) (fun i _ => l.length - (intOf i).toNat)
  case atStart => exact ⟨0, 0, Nat.zero_le _, rfl, rfl⟩
  case round =>
    obtain ⟨k, d, hk, rfl, rfl⟩ := hrel
    by_cases hlt : k < l.length
    · have hlt' : (k : Int) < (l.length : Int) := by omega
      obtain ⟨b, off, cap, x, e, hx, x0, x1, x2, x3, x4⟩ := HV.out.at k hlt
      obtain ⟨b', off', cap', y, e', hy, y0, y1, y2, y3, y4⟩ := HU.out.at k hlt
      simp at e e'
      obtain ⟨rfl, rfl⟩ := e
      obtain ⟨rfl, rfl⟩ := e'
      obtain rfl : x = y := by rw [hx] at hy; simpa using hy
      clear hx hy
      go_wp2_with fail
      go_quiet (fail)
      go_wp2_with fail
      exact ⟨⟨k + 1, d + nq, by omega, by go_num, rfl⟩, by simp [intOf]; omega⟩
    · have hlt' : ¬ (k : Int) < (l.length : Int) := by omega
      go_wp2_with fail
      go_ret
      exact ⟨rfl, d, rfl⟩

set_option maxHeartbeats 2000000 in
set_option maxRecDepth 100000 in
theorem ofMetas_own (l : List Me) (v : Value) (w : World) (hv : MetsR w v l) (hl : l.length ≤ 4000000000000) :
    Calls Try.prog 22 #[v] w fun e w' => ∃ a c, e = .returned (.slice a l.length c) ∧ Hid (OwnR w' w.heap.size 70 5 (.slice a l.length c) (l.map meRow)) ∧ Hid (Below w.heap.size w w') := by
  have HV : Hid (MetsR w v l) := hv
  obtain ⟨a1, c1, rfl, g1, m1⟩ := hv.len
  have hl63 : l.length ≤ 9223372036854775807 := by unfold maxLen at m1; omega
  clear hv g1 m1
  go_enter Try.func22, Try.ntmps22
  go_wp2_with fail
  go_loopw [3, 4] (fun o i wr => ∃ (k : Nat) (ao : Option Addr) (co : Nat), k ≤ l.length ∧ i = .int .i64 k ∧ o = .slice ao k co ∧ Hid (OwnR wr w.heap.size 70 5 (.slice ao k co) ((l.take k).map meRow)) ∧ Hid (Below w.heap.size w wr)) (fun _ i _ => l.length - (intOf i).toNat)
  case atStart => exact ⟨0, none, 0, Nat.zero_le _, rfl, rfl, OwnR.nil _ _ _ _, Below.refl _ _⟩
  case round =>
    obtain ⟨k, ao, co, hk, rfl, rfl, HO, HB⟩ := hrel
    by_cases hlt : k < l.length
    · have hlt' : (k : Int) < (l.length : Int) := by omega
      obtain ⟨b, off, cap, x, e, hx, x0, x1, x2, x3, x4⟩ := (HV.out.up HB.out).at k hlt
      simp at e
      obtain ⟨rfl, rfl⟩ := e
      have HT : Hid ((l.take k).map meRow ++ [[.int .i64 x.id, .int .i64 x.lvl, .int .i64 x.cnt, .string x.low, .string x.high]] = (l.take (k + 1)).map meRow) := by
        unfold Hid; rw [List.take_add_one, hx, List.map_append]; rfl
      have HLT : Hid (((l.take k).map meRow).length = k) := by unfold Hid; rw [List.length_map, List.length_take]; omega
      have HC : Hid ((((l.take k).map meRow).length + 1 + (((l.take k).map meRow).length + 1) / 4 + 192) * 56 ≤ 281474976710656 ∧ ((l.take k).map meRow).length + 1 ≤ maxLen) := by
        unfold Hid; rw [HLT.out]; unfold maxLen; omega
      have HLT1 : Hid (((l.take (k + 1)).map meRow).length = k + 1) := by unfold Hid; rw [List.length_map, List.length_take]; omega
      have HO1 : Hid (∀ u ∈ ([.int .i64 x.id, .int .i64 x.lvl, .int .i64 x.cnt, .string x.low, .string x.high] : List Value), u.oneCell' = true) := meRow_one x
      have S0 : Hid (w.heap.size ≤ wr.heap.size) := HB.out.size
      clear hx
      generalize (l.take k).map meRow = T1 at *
      obtain ⟨T2, hT2⟩ : ∃ T2, (l.take (k + 1)).map meRow = T2 := ⟨_, rfl⟩
      rw [hT2] at HT HLT1
      have HT2 : Hid ((l.take (k + 1)).map meRow = T2) := hT2
      clear hT2
      go_wp2_with (at_builtin; refine wpList_append_row wr rfl _ _ 25 70 _ 5 56 rfl Try.underlying25 Try.info70 rfl (by decide) w.heap.size (.slice ao k co) T1 rfl HO.out [.int .i64 x.id, .int .i64 x.lvl, .int .i64 x.cnt, .string x.low, .string x.high] _ _ rfl rfl rfl rfl HO1.out HC.out.1 HC.out.2 S0.out ?_)
      intro v2 w2 O2 B2
      rw [HT.out] at O2
      have U2 : Hid (Below w.heap.size w w2) := HB.out.trans B2
      obtain ⟨a3, c3, e3, _, _⟩ := (Rws.own O2).len
      rw [HLT1.out] at e3
      subst e3
      have O3 : Hid (OwnR w2 w.heap.size 70 5 (.slice a3 (k + 1) c3) T2) := O2
      clear O2 B2 HO HT HLT HC HLT1
      go_wp2_with fail
      exact ⟨⟨k + 1, a3, c3, by omega, by go_num, rfl, by rw [HT2.out]; exact O3, U2⟩, by simp [intOf]; omega⟩
    · have hlt' : ¬ (k : Int) < (l.length : Int) := by omega
      obtain rfl : k = l.length := by omega
      rw [List.take_length] at HO
      go_wp2_with fail
      go_ret
      exact ⟨ao, co, rfl, HO, HB⟩
end Go.Proofs.Ytjdibpmckeifhaa
