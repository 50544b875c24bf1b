/- The law WalNumbers, walked: a batch's versions have the numbers from its own on, in order, and say what it says. -/
import Derived.Test.YtgphkddcfcmaiaaWSame
import Derived.Test.YtgphkddcfcmaiaaWEnt
import Derived.Test.YtgphkddcfcmaiaaWRefChk
namespace Go.Proofs.Ytgphkddcfcmaiaa
open Go.RowKit SumPlain
set_option linter.unusedVariables false

set_option maxHeartbeats 2000000 in
set_option maxRecDepth 100000 in
theorem num_walk (s : Int) (cs : List Chg) (a : Option Addr) (c : Nat) (w : World) (hv : ChgsR w (.slice a cs.length c) cs) (hl : cs.length * 40 ≤ 140737488355328) :
    Calls Try.prog 8 #[.agg #[.int .i64 s, .slice a cs.length c]] w fun e w' => e = .returned (.bool true) ∧ Below w.heap.size w w' := by
  have HV : Hid (ChgsR w (.slice a cs.length c) cs) := hv
  clear hv
  go_enter Try.func8, Try.ntmps8
  go_wp2_with fail
  refine (alive_any _).mono ?_
  rintro e w1 ⟨rfl, b1⟩
  have D1 : Hid (w1.heap[w.heap.size]? = some (.cells #[.int .i64 s, .slice a cs.length c] 24)) := blk_up (blk_new w _) b1
  have U1 : Hid (Below w.heap.size w w1) := up_trans (up_alloc w _) b1
  clear b1
  have p0 := blk_cell D1.out 0 _ rfl
  have p1 := blk_cell D1.out 1 _ rfl
  go_wp2_with fail
  refine (of_any s cs a c _ (HV.out.up U1.out) hl).mono ?_
  rintro e w2 ⟨a', c', rfl, ho, b2⟩
  have U2 : Hid (Below w.heap.size w w2) := up_trans U1.out b2
  have D2 : Hid (w2.heap[w.heap.size]? = some (.cells #[.int .i64 s, .slice a cs.length c] 24)) := blk_up D1.out b2
  have O2 : Hid (ChgsR w2 (.slice a' cs.length c') cs) := ho.read
  clear p0 p1 b2 ho D1 U1
  go_wp2_with fail
  by_cases hz : checkOf s cs = 0
  · refine (entries_good s cs a' c' w2 O2.out hz).mono ?_
    rintro e w3 ⟨a3, n3, c3, rfl, O3, B3⟩
    have U3 : Hid (Below w.heap.size w w3) := up_trans U2.out B3.out
    have D3 : Hid (w3.heap[w.heap.size]? = some (.cells #[.int .i64 s, .slice a cs.length c] 24)) := blk_up D2.out B3.out
    obtain ⟨hs, hn, hc⟩ := checkOf_ok hz
    have hn64 : cs.length ≤ 64 := hn.2
    have R3 : Hid (Rws 4 w3 (.slice a3 n3 c3) (entL s cs)) := Rws.own O3.out
    have hnn : n3 = cs.length := by
      obtain ⟨x, y, e, _⟩ := R3.out.len
      rw [entL_len] at e
      simp at e
      exact e.2.1
    subst hnn
    clear O3 B3 U2 D2 O2 hn hc hz
    have p0 := blk_cell D3.out 0 _ rfl
    have p1 := blk_cell D3.out 1 _ rfl
    go_wp2_with fail
    refine (num_any _ _).mono ?_
    rintro e w4 ⟨rfl, rfl⟩
    go_wp2
    go_loopw [5] (fun i wr => ∃ k : Nat, k ≤ cs.length ∧ i = .int .i64 k ∧ Hid (Below w4.heap.size w4 wr)) (fun i _ => cs.length - (intOf i).toNat)
    case atStart => exact ⟨0, Nat.zero_le _, rfl, Below.refl _ _⟩
    case round =>
      clear p0 p1
      obtain ⟨k, hk, rfl, HB⟩ := hrel
      have DD : Hid (wr.heap[w.heap.size]? = some (.cells #[.int .i64 s, .slice a cs.length c] 24)) := blk_up D3.out HB.out
      have p0 := blk_cell DD.out 0 _ rfl
      have p1 := blk_cell DD.out 1 _ rfl
      by_cases hlt : k < cs.length
      · have hlt' : (k : Int) < (cs.length : Int) := by omega
        obtain ⟨b, off, cap, ch, e, q1, q2, hcs, c0, c1, c2⟩ := (HV.out.up (up_trans U3.out HB.out)).at k hlt
        simp at e
        obtain ⟨rfl, rfl⟩ := e
        obtain ⟨g, of', cap', e', r1, r2, hr⟩ := (R3.out.up HB.out).at k (by rw [entL_len]; exact hlt)
        simp [entL_len] at e'
        obtain ⟨rfl, rfl⟩ := e'
        have hg : (entL s cs).getD k [] = erow (s + (k : Int)) ch := by simp [List.getD, entL_at s cs k ch hcs]
        rw [hg] at hr
        rw [entL_len] at r1
        clear hcs hg
        have UB : Hid (∀ o, Below w4.heap.size w4 (wr.alloc o)) := fun o => up_al HB.out o
        obtain ⟨ck, cd, cv⟩ := ch
        simp only at c0 c1 c2
        cases cd with
        | false =>
          have D6 : Hid ((wr.alloc (.cells #[.string ck, .bool false, .string cv] 67)).heap[wr.heap.size]? = some (.cells #[.string ck, .bool false, .string cv] 67)) := blk_new wr _
          have E6 : Hid ((wr.alloc (.cells #[.string ck, .bool false, .string cv] 67)).heap[w.heap.size]? = some (.cells #[.int .i64 s, .slice (some ⟨b, off, none⟩) cs.length c] 24)) := blk_up DD.out (up_alloc _ _)
          have F6 : Hid (∀ i u, (erow (s + (k : Int)) ⟨ck, false, cv⟩)[i]? = some u → (wr.alloc (.cells #[.string ck, .bool false, .string cv] 67)).cell? ⟨g, of' + k * 4 + i, none⟩ = some u) := fun i u hu => (up_alloc wr _).cell (World.block_lt_of_cell? wr _ (hr i u hu)) |>.trans (hr i u hu)
          have UB2 := UB.out (.cells #[.string ck, .bool false, .string cv] 67)
          have UB3 : Hid (Below w4.heap.size w4 (wr.alloc (.cells #[.string ck, .bool false, .string cv] 67))) := UB2
          clear hr UB UB2
          go_wp2_with fail
          generalize wr.alloc (.cells #[.string ck, .bool false, .string cv] 67) = wa at *
          have z0 := blk_cell D6.out 0 _ rfl
          have z1 := blk_cell D6.out 1 _ rfl
          have z2 := blk_cell D6.out 2 _ rfl
          have z3 := blk_cell E6.out 0 _ rfl
          have f0 : wa.cell? ⟨g, of' + k * 4, none⟩ = some (.string ck) := F6.out 0 _ rfl
          have f1 : wa.cell? ⟨g, of' + k * 4 + 1, none⟩ = some (.int .i64 (s + (k : Int))) := F6.out 1 _ rfl
          have f2 : wa.cell? ⟨g, of' + k * 4 + 2, none⟩ = some (.int .i64 1) := F6.out 2 _ rfl
          have f3 : wa.cell? ⟨g, of' + k * 4 + 3, none⟩ = some (.string cv) := F6.out 3 _ rfl
          clear c0 c1 c2 p0 p1
          go_quiet (fail)
          go_wp2
          exact ⟨⟨k + 1, hlt, by go_num, up_trans UB3.out (up_drewN _ _)⟩, by simp [intOf]; omega⟩
        | true =>
          have D6 : Hid ((wr.alloc (.cells #[.string ck, .bool true, .string cv] 67)).heap[wr.heap.size]? = some (.cells #[.string ck, .bool true, .string cv] 67)) := blk_new wr _
          have E6 : Hid ((wr.alloc (.cells #[.string ck, .bool true, .string cv] 67)).heap[w.heap.size]? = some (.cells #[.int .i64 s, .slice (some ⟨b, off, none⟩) cs.length c] 24)) := blk_up DD.out (up_alloc _ _)
          have F6 : Hid (∀ i u, (erow (s + (k : Int)) ⟨ck, true, cv⟩)[i]? = some u → (wr.alloc (.cells #[.string ck, .bool true, .string cv] 67)).cell? ⟨g, of' + k * 4 + i, none⟩ = some u) := fun i u hu => (up_alloc wr _).cell (World.block_lt_of_cell? wr _ (hr i u hu)) |>.trans (hr i u hu)
          have UB2 := UB.out (.cells #[.string ck, .bool true, .string cv] 67)
          have UB3 : Hid (Below w4.heap.size w4 (wr.alloc (.cells #[.string ck, .bool true, .string cv] 67))) := UB2
          clear hr UB UB2
          go_wp2_with fail
          generalize wr.alloc (.cells #[.string ck, .bool true, .string cv] 67) = wa at *
          have z0 := blk_cell D6.out 0 _ rfl
          have z1 := blk_cell D6.out 1 _ rfl
          have z2 := blk_cell D6.out 2 _ rfl
          have z3 := blk_cell E6.out 0 _ rfl
          have f0 : wa.cell? ⟨g, of' + k * 4, none⟩ = some (.string ck) := F6.out 0 _ rfl
          have f1 : wa.cell? ⟨g, of' + k * 4 + 1, none⟩ = some (.int .i64 (s + (k : Int))) := F6.out 1 _ rfl
          have f2 : wa.cell? ⟨g, of' + k * 4 + 2, none⟩ = some (.int .i64 2) := F6.out 2 _ rfl
          have f3 : wa.cell? ⟨g, of' + k * 4 + 3, none⟩ = some (.string cv) := F6.out 3 _ rfl
          clear c0 c1 c2 p0 p1
          go_quiet (fail)
          go_wp2
          exact ⟨⟨k + 1, hlt, by go_num, up_trans UB3.out (up_drewN _ _)⟩, by simp [intOf]; omega⟩
      · have hlt' : ¬ (k : Int) < (cs.length : Int) := by omega
        go_wp2
        go_ret
        exact ⟨rfl, up_trans U3.out HB.out⟩
  · refine (entries_bad s cs a' c' w2 O2.out hz).mono ?_
    rintro e w3 ⟨rfl, b3⟩
    have U3 : Hid (Below w.heap.size w w3) := up_trans U2.out b3
    have D3 : Hid (w3.heap[w.heap.size]? = some (.cells #[.int .i64 s, .slice a cs.length c] 24)) := blk_up D2.out b3
    have hz' : (checkOf s cs == 0) = false := by simp [hz]
    clear U2 D2 O2 b3
    have p0 := blk_cell D3.out 0 _ rfl
    have p1 := blk_cell D3.out 1 _ rfl
    go_wp2_with fail
    refine (num_any _ _).mono ?_
    rintro e w4 ⟨rfl, rfl⟩
    go_wp2_with fail
    refine (refCheck_any s cs a c _ (HV.out.up U3.out)).mono ?_
    rintro e w5 ⟨rfl, b5⟩
    have U5 : Hid (Below w.heap.size w w5) := up_trans U3.out b5
    clear b5
    go_wp2
    go_ret
    exact ⟨ret_bool (by simp), U5.out⟩
end Go.Proofs.Ytgphkddcfcmaiaa
