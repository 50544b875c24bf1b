/- The program's ids. -/
import Derived.Test.YtjdibpmckeifhaaJAt
import Derived.Test.YtjdibpmckeifhaaLInts
namespace Go.Proofs.Ytjdibpmckeifhaa
open Go.RowKit
set_option linter.unusedVariables false
set_option linter.unusedSimpArgs false

def idR (l : List Me) : List (List Value) := (l.map (·.id)).map irow
set_option maxHeartbeats 4000000 in
set_option maxRecDepth 100000 in
theorem ids_any (l : List Me) (v : Value) (w : World) (hv : MetsR w v l) (hl : l.length ≤ 4000000) :
    Calls Try.prog 30 #[v] w fun e w' => ∃ a n c, e = .returned (.slice a n c) ∧ Hid (OwnR w' w.heap.size 3 1 (.slice a n c) (idR l)) ∧ Hid (Below w.heap.size w w') := by
  have HV : Hid (MetsR w v l) := hv
  obtain ⟨a1, c1, rfl, g1, m1⟩ := hv.len
  clear hv g1 m1
  go_enter Try.func30, Try.ntmps30
  go_wp2_with fail
  go_loopw [3, 8] (fun o i wr => ∃ (k : Nat) (ao : Option Addr) (no co : Nat), k ≤ l.length ∧ i = .int .i64 k ∧ o = .slice ao no co ∧ Hid (OwnR wr w.heap.size 3 1 (.slice ao no co) (idR (l.take k))) ∧ Hid (Below w.heap.size w wr)) (fun _ i _ => l.length - (intOf i).toNat)
  case atStart => exact ⟨0, none, 0, 0, Nat.zero_le _, rfl, rfl, OwnR.nil _ _ _ _, Below.refl _ _⟩
  case round =>
    obtain ⟨k, ao, no, co, hk, rfl, rfl, HO, HB⟩ := hrel
    by_cases hlt : k < l.length
    · have hlt' : (k : Int) < (l.length : Int) := by omega
      obtain ⟨b, off, cap, x, e, hx, x0, x1, x2, x3, x4⟩ := (HV.out.up HB.out).at k hlt
      simp at e
      obtain ⟨rfl, rfl⟩ := e
      have HT : Hid (idR (l.take k) ++ [[.int .i64 x.id]] = idR (l.take (k + 1))) := by
        unfold Hid idR; rw [List.take_add_one, hx, List.map_append, List.map_append]; rfl
      have HC : Hid (((idR (l.take k)).length + 1 + ((idR (l.take k)).length + 1) / 4 + 192) * 8 ≤ 281474976710656 ∧ (idR (l.take k)).length + 1 ≤ maxLen) := by
        unfold Hid maxLen idR; rw [List.length_map, List.length_map, List.length_take]; omega
      have UB : Hid (Below wr.heap.size wr (wr.alloc (meBox x))) := up_alloc _ _
      have HB2 : Hid (Below w.heap.size w (wr.alloc (meBox x))) := up_al HB.out _
      have BX : Hid (BoxM (wr.alloc (meBox x)) wr.heap.size x) := blk_new _ _
      have HO2 : Hid (OwnR (wr.alloc (meBox x)) w.heap.size 3 1 (.slice ao no co) (idR (l.take k))) := HO.out.up UB.out
      clear hx
      obtain ⟨w2, hw2⟩ : ∃ w2, w2 = wr.alloc (meBox x) := ⟨_, rfl⟩
      have HW2 : Hid (wr.alloc (.cells #[.int .i64 x.id, .int .i64 x.lvl, .int .i64 x.cnt, .string x.low, .string x.high] 70) = w2) := hw2.symm
      rw [← hw2] at HB2 BX HO2
      clear hw2 HO UB
      have HO1 : Hid (∀ u ∈ ([.int .i64 x.id] : List Value), u.oneCell' = true) := by intro u hu; simp at hu; subst hu; rfl
      have S0 : Hid (w.heap.size ≤ w2.heap.size) := HB2.out.size
      obtain ⟨T2, hT2⟩ : ∃ T2, idR (l.take (k + 1)) = T2 := ⟨_, rfl⟩
      rw [hT2] at HT
      have HT2 : Hid (idR (l.take (k + 1)) = T2) := hT2
      clear hT2
      generalize idR (l.take k) = T1 at *
      go_upto_region 5 with fail
      rw [HW2.out]
      clear HW2
      generalize wr.heap.size = NX at *
      clear x0 x1 x2 x3 x4
      obtain ⟨m0, m1, m2, m3, m4⟩ := BX.out.cells
      go_wp2_with (at_builtin; refine wpList_append_row w2 rfl _ _ 29 3 _ 1 8 rfl Try.underlying29 Try.info3 rfl (by decide) w.heap.size (.slice ao no co) T1 rfl HO2.out [.int .i64 x.id] _ _ rfl rfl rfl rfl HO1.out HC.out.1 HC.out.2 S0.out ?_)
      intro v2 w4 O2 B2
      rw [HT.out] at O2
      have U4 : Hid (Below w.heap.size w w4) := HB2.out.trans B2
      obtain ⟨a3, n3, c3, rfl, O3⟩ := rows_shape O2
      clear O2 B2 HO2 HT HC m0 m1 m2 m3 m4
      go_wp2_with fail
      exact ⟨⟨k + 1, a3, n3, c3, by omega, by go_num, rfl, by rw [HT2.out]; exact O3, U4⟩, by simp [intOf]; omega⟩
    · have hlt' : ¬ (k : Int) < (l.length : Int) := by omega
      obtain rfl : k = l.length := by omega
      rw [List.take_length] at HO
      go_wp2_with fail
      go_ret
      exact ⟨ao, no, co, rfl, HO, HB⟩
end Go.Proofs.Ytjdibpmckeifhaa
