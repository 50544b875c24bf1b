/- How many versions tables have: the program's and the document's. -/
import Derived.Test.YtjdibpmckeifhaaJAt
namespace Go.Proofs.Ytjdibpmckeifhaa
open Go.RowKit
set_option linter.unusedVariables false
set_option linter.unusedSimpArgs false

set_option maxHeartbeats 4000000 in
set_option maxRecDepth 100000 in
theorem verIn_any (l : List Me) (v : Value) (w : World) (hv : MetsR w v l) (hc : CntL l) :
    Calls Try.prog 41 #[v] w fun e w' => e = .returned (.int .i64 (cntM l)) ∧ Hid (Below w.heap.size w w') := by
  have HV : Hid (MetsR w v l) := hv
  have HC : Hid (CntL l) := hc
  obtain ⟨a1, c1, rfl, g1, m1⟩ := hv.len
  have hl : l.length ≤ 256 := hc.1
  clear hv hc g1 m1
  go_enter Try.func41, Try.ntmps41
  go_wp2_with fail
  go_loopw [3, 8] (fun o i wr => ∃ (k : Nat), k ≤ l.length ∧ i = .int .i64 k ∧ o = .int .i64 (cntM (l.take k)) ∧ Hid (Below w.heap.size w wr)) (fun _ i _ => l.length - (intOf i).toNat)
  case atStart => exact ⟨0, Nat.zero_le _, rfl, rfl, Below.refl _ _⟩
  case round =>
    obtain ⟨k, hk, rfl, rfl, HB⟩ := hrel
    by_cases hlt : k < l.length
    · have hlt' : (k : Int) < (l.length : Int) := by omega
      obtain ⟨b, off, cap, x, e, hx, x0, x1, x2, x3, x4⟩ := (HV.out.up HB.out).at k hlt
      simp at e
      obtain ⟨rfl, rfl⟩ := e
      have HX : Hid (cntM (l.take (k + 1)) = cntM (l.take k) + x.cnt) := cntM_snoc l k x hx
      have b1 := cntM_take HC.out k
      have b2 := HC.out.2 x (List.mem_of_getElem? hx)
      have HB2 : Hid (Below w.heap.size w (wr.alloc (meBox x))) := up_al HB.out _
      have BX : Hid (BoxM (wr.alloc (meBox x)) wr.heap.size x) := blk_new _ _
      clear hx
      obtain ⟨w2, hw2⟩ : ∃ w2, w2 = wr.alloc (meBox x) := ⟨_, rfl⟩
      have HW2 : Hid (wr.alloc (.cells #[.int .i64 x.id, .int .i64 x.lvl, .int .i64 x.cnt, .string x.low, .string x.high] 70) = w2) := hw2.symm
      rw [← hw2] at HB2 BX
      clear hw2
      generalize cntM (l.take k) = C at *
      go_upto_region 5 with fail
      rw [HW2.out]
      clear HW2
      generalize wr.heap.size = NX at *
      clear x0 x1 x2 x3 x4
      obtain ⟨m0, m1, m2, m3, m4⟩ := BX.out.cells
      go_wp2_with fail
      exact ⟨⟨k + 1, by omega, by go_num, by rw [HX.out], HB2⟩, by simp [intOf]; omega⟩
    · have hlt' : ¬ (k : Int) < (l.length : Int) := by omega
      obtain rfl : k = l.length := by omega
      rw [List.take_length]
      go_wp2_with fail
      go_ret
      exact ⟨rfl, HB⟩
set_option maxHeartbeats 4000000 in
set_option maxRecDepth 100000 in
theorem refCnt_any (l : List Me) (v : Value) (w : World) (hv : MetsR w v l) (hc : CntL l) :
    Calls Try.prog 42 #[v] w fun e w' => e = .returned (.int .i64 (cntM l)) ∧ w' = w := by
  have HV : Hid (MetsR w v l) := hv
  have HC : Hid (CntL l) := hc
  obtain ⟨a1, c1, rfl, g1, m1⟩ := hv.len
  have hl : l.length ≤ 256 := hc.1
  clear hv hc g1 m1
  go_enter Try.func42, Try.ntmps42
  go_wp2_with fail
  go_loopw [3, 4] (fun o i wr => ∃ (k : Nat), k ≤ l.length ∧ i = .int .i64 k ∧ o = .int .i64 (cntM (l.take k)) ∧ wr = w) (fun _ i _ => l.length - (intOf i).toNat)
  case atStart => exact ⟨0, Nat.zero_le _, rfl, rfl, rfl⟩
  case round =>
    obtain ⟨k, hk, rfl, rfl, rfl⟩ := hrel
    by_cases hlt : k < l.length
    · have hlt' : (k : Int) < (l.length : Int) := by omega
      obtain ⟨b, off, cap, x, e, hx, x0, x1, x2, x3, x4⟩ := HV.out.at k hlt
      simp at e
      obtain ⟨rfl, rfl⟩ := e
      have HX : Hid (cntM (l.take (k + 1)) = cntM (l.take k) + x.cnt) := cntM_snoc l k x hx
      have b1 := cntM_take HC.out k
      have b2 := HC.out.2 x (List.mem_of_getElem? hx)
      clear hx
      generalize cntM (l.take k) = C at *
      go_wp2_with fail
      exact ⟨⟨k + 1, by omega, by go_num, by rw [HX.out], trivial⟩, by simp [intOf]; omega⟩
    · have hlt' : ¬ (k : Int) < (l.length : Int) := by omega
      obtain rfl : k = l.length := by omega
      rw [List.take_length]
      go_wp2_with fail
      go_ret
      exact ⟨rfl, rfl⟩
end Go.Proofs.Ytjdibpmckeifhaa
