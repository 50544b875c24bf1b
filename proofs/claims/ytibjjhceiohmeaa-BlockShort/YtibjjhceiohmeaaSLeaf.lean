/- The leaves: octets copied, octets held against each other, the register's eight shifts, Extend and Sum of the program and of the document. -/
import Derived.Test.YtibjjhceiohmeaaKBase
import Derived.Test.YtibjjhceiohmeaaSBridge
namespace Go.Proofs.Ytibjjhceiohmeaa
open Go.RowKit SumPlain
set_option linter.unusedVariables false

theorem shl1 (r : BitVec 32) : (r.toNat : Int) * (2 : Int) % (4294967296 : Int) = ((r <<< 1).toNat : Int) := shl32 r 1

theorem shl1_small (r : BitVec 32) (h : r.msb = false) : (r.toNat : Int) * (2 : Int) = ((stp r).toNat : Int) := by
  rw [← stp_small r h, ← shl1]
  have e := msb_big r
  rw [h] at e
  have := of_decide_eq_false e.symm
  omega

theorem ret_u32 {a b : Int} (h : a = b) : Value.int .u32 a = .int .u32 b := by rw [h]

set_option maxHeartbeats 400000 in
theorem shifted_any (c : BitVec 32) (w : World) :
    Calls Try.prog 68 #[.int .u32 (c.toNat : Int)] w fun e w' => e = .returned (.int .u32 ((stpN 8 c).toNat : Int)) ∧ w' = w := by
  go_enter Try.func68, Try.ntmps68
  go_wp2
  go_loopw [0, 4] (fun s i wr => ∃ k : Nat, k ≤ 8 ∧ i = .int .i64 k ∧ s = .int .u32 ((stpN k c).toNat : Int) ∧ wr = w) (fun _ i _ => 8 - (intOf i).toNat)
  case atStart => exact ⟨0, Nat.zero_le _, rfl, rfl, rfl⟩
  case round =>
    obtain ⟨k, hk, rfl, rfl, rfl⟩ := hrel
    by_cases hlt : k < 8
    · have hlt' : (k : Int) < 8 := by omega
      have HS : Hid (stpN (k + 1) c = stp (stpN k c)) := stpN_succ k c
      generalize stpN k c = r at *
      have hu := u32_of r
      have ha := and_top r
      cases hm : r.msb
      · rw [hm] at ha
        simp only [Bool.false_eq_true, if_false] at ha
        go_wp2
        exact ⟨⟨k + 1, by omega, by go_num, ret_u32 (by rw [HS.out, shl1, stp_small r hm]), trivial⟩, by simp [intOf]; omega⟩
      · rw [hm] at ha
        simp only [if_true] at ha
        go_wp2
        exact ⟨⟨k + 1, by omega, by go_num, ret_u32 (by rw [HS.out, shl1, stp_big r hm]), trivial⟩, by simp [intOf]; omega⟩
    · have hlt' : ¬ (k : Int) < 8 := by omega
      obtain rfl : k = 8 := by omega
      go_wp2
      go_ret
      exact ⟨rfl, rfl⟩

theorem Octs.at {w : World} {v : Value} {l : List Int} (h : Octs w v l) (k : Nat) (hk : k < l.length) :
    ∃ b off cap, v = .slice (some ⟨b, off, none⟩) l.length cap ∧ l.length ≤ cap ∧ cap ≤ maxLen ∧ w.cell? ⟨b, off + k, none⟩ = some (.int .u8 (l.getD k 0)) := by
  obtain ⟨_, h⟩ := h
  rcases h with ⟨rfl, _⟩ | ⟨hn, b, off, cap, rfl, hc, hm, hj⟩
  · simp at hk
  · exact ⟨b, off, cap, rfl, hc, hm, hj k _ (by simp [List.getD, hk])⟩

theorem Octs.len {w : World} {v : Value} {l : List Int} (h : Octs w v l) : ∃ a cap, v = .slice a l.length cap ∧ l.length ≤ cap ∧ l.length ≤ maxLen := by
  obtain ⟨_, h⟩ := h
  rcases h with ⟨rfl, a, cap, rfl, _⟩ | ⟨hn, b, off, cap, rfl, hc, hm, hj⟩
  · exact ⟨a, cap, rfl, Nat.zero_le _, Nat.zero_le _⟩
  · exact ⟨_, cap, rfl, hc, by omega⟩

theorem Octs.oct {w : World} {v : Value} {l : List Int} (h : Octs w v l) (k : Nat) (hk : k < l.length) : 0 ≤ l.getD k 0 ∧ l.getD k 0 ≤ 255 := h.1 _ (by simp [List.getD, hk])

set_option maxHeartbeats 400000 in
theorem extend_any (c : BitVec 32) (l : List Int) (v : Value) (w : World) (hv : Octs w v l) :
    Calls Try.prog 56 #[.int .u32 (c.toNat : Int), v] w fun e w' => e = .returned (.int .u32 ((ext c l).toNat : Int)) ∧ w' = w := by
  have HV : Hid (Octs w v l) := hv
  obtain ⟨a, cap, rfl, hcap, hmax⟩ := hv.len
  clear hv
  unfold maxLen at hmax
  go_enter Try.func56, Try.ntmps56
  go_wp2
  go_loopw [0, 9] (fun s i wr => ∃ k : Nat, k ≤ l.length ∧ i = .int .i64 k ∧ s = .int .u32 ((ext c (l.take k)).toNat : Int) ∧ wr = w) (fun _ i _ => l.length - (intOf i).toNat)
  case atStart => exact ⟨0, Nat.zero_le _, rfl, rfl, rfl⟩
  case round =>
    obtain ⟨k, hk, rfl, rfl, rfl⟩ := hrel
    by_cases hlt : k < l.length
    · have hlt' : (k : Int) < (l.length : Int) := by omega
      have HS : Hid (ext c (l.take (k + 1)) = octS (ext c (l.take k)) (BitVec.ofInt 8 (l.getD k 0))) := by unfold Hid; rw [take_snoc l k 0 hlt, ext_snoc]
      obtain ⟨b, off, cap', e, _, _, hcell⟩ := HV.out.at k hlt
      simp at e
      obtain ⟨rfl, rfl⟩ := e
      obtain ⟨x0, x1⟩ := HV.out.oct k hlt
      generalize ext c (l.take k) = r at *
      generalize l.getD k 0 = x at *
      have hu := u32_of r
      have HT : Hid (bits .xor .u32 (r.toNat : Int) (x * 16777216) = ((r ^^^ top (BitVec.ofInt 8 x)).toNat : Int)) := in_top r x x0 x1
      go_wp2_with fail
      rw [HT.out]
      refine (shifted_any _ _).mono ?_
      rintro e w1 ⟨rfl, rfl⟩
      go_wp2
      exact ⟨⟨k + 1, by omega, by go_num, ret_u32 (by rw [HS.out]; rfl), trivial⟩, by simp [intOf]; omega⟩
    · have hlt' : ¬ (k : Int) < (l.length : Int) := by omega
      obtain rfl : k = l.length := by omega
      rw [List.take_length]
      go_wp2
      go_ret
      exact ⟨rfl, rfl⟩

theorem sum_any (l : List Int) (v : Value) (w : World) (hv : Octs w v l) :
    Calls Try.prog 44 #[v] w fun e w' => e = .returned (.int .u32 ((ext ones l).toNat : Int)) ∧ w' = w := by
  have HV : Hid (Octs w v l) := hv
  clear hv
  go_enter Try.func44, Try.ntmps44
  go_wp2_with fail
  refine (extend_any ones l _ _ HV.out).mono ?_
  rintro e w1 ⟨rfl, rfl⟩
  go_wp2
  go_ret
  exact ⟨rfl, rfl⟩

set_option maxHeartbeats 400000 in
theorem refExtend_any (c : BitVec 32) (l : List Int) (v : Value) (w : World) (hv : Octs w v l) :
    Calls Try.prog 57 #[.int .u32 (c.toNat : Int), v] w fun e w' => e = .returned (.int .u32 ((ext c l).toNat : Int)) ∧ w' = w := by
  have HV : Hid (Octs w v l) := hv
  obtain ⟨a, cap, rfl, hcap, hmax⟩ := hv.len
  clear hv
  unfold maxLen at hmax
  go_enter Try.func57, Try.ntmps57
  go_wp2
  go_loopw [0, 5] (fun s i wr => ∃ k : Nat, k ≤ l.length ∧ i = .int .i64 k ∧ s = .int .u32 ((ext c (l.take k)).toNat : Int) ∧ wr = w) (fun _ i _ => l.length - (intOf i).toNat)
  case atStart => exact ⟨0, Nat.zero_le _, rfl, rfl, rfl⟩
  case round =>
    obtain ⟨k, hk, rfl, rfl, rfl⟩ := hrel
    by_cases hlt : k < l.length
    · have hlt' : (k : Int) < (l.length : Int) := by omega
      have HS : Hid (ext c (l.take (k + 1)) = octS (ext c (l.take k)) (BitVec.ofInt 8 (l.getD k 0))) := by unfold Hid; rw [take_snoc l k 0 hlt, ext_snoc]
      obtain ⟨b, off, cap', e, _, _, hcell⟩ := HV.out.at k hlt
      simp at e
      obtain ⟨rfl, rfl⟩ := e
      obtain ⟨x0, x1⟩ := HV.out.oct k hlt
      generalize ext c (l.take k) = r at *
      generalize l.getD k 0 = x at *
      have hu := u32_of r
      have HT : Hid (bits .xor .u32 (r.toNat : Int) (x * 16777216) = ((r ^^^ top (BitVec.ofInt 8 x)).toNat : Int)) := in_top r x x0 x1
      go_wp2_with fail
      rw [HT.out]
      have HS2 : Hid (ext c (l.take (k + 1)) = stpN 8 (r ^^^ top (BitVec.ofInt 8 x))) := HS.out
      clear HS HT
      generalize r ^^^ top (BitVec.ofInt 8 x) = r8 at *
      go_loopw [0, 6] (fun s i wx => ∃ j : Nat, j ≤ 8 ∧ i = .int .i64 j ∧ s = .int .u32 ((stpN j r8).toNat : Int) ∧ wx = wr) (fun _ i _ => 8 - (intOf i).toNat)
      case atStart => exact ⟨0, Nat.zero_le _, rfl, rfl, rfl⟩
      case round =>
        obtain ⟨j, hj, rfl, rfl, rfl⟩ := hrel
        by_cases hlt8 : j < 8
        · have hlt8' : (j : Int) < 8 := by omega
          have HS : Hid (stpN (j + 1) r8 = stp (stpN j r8)) := stpN_succ j r8
          generalize stpN j r8 = q at *
          have hu := u32_of q
          have ha := shr_top q
          cases hm : q.msb
          · rw [hm] at ha
            simp only [Bool.false_eq_true, if_false] at ha
            go_wp2
            exact ⟨⟨j + 1, by omega, by go_num, ret_u32 (by rw [HS.out, shl1_small q hm]), trivial⟩, by simp [intOf]; omega⟩
          · rw [hm] at ha
            simp only [if_true] at ha
            go_wp2
            exact ⟨⟨j + 1, by omega, by go_num, ret_u32 (by rw [HS.out, shl1, stp_big q hm]), trivial⟩, by simp [intOf]; omega⟩
        · have hlt8' : ¬ (j : Int) < 8 := by omega
          obtain rfl : j = 8 := by omega
          go_wp2
          exact ⟨⟨k + 1, by omega, by go_num, ret_u32 (by rw [HS2.out]), trivial⟩, by simp [intOf]; omega⟩
    · have hlt' : ¬ (k : Int) < (l.length : Int) := by omega
      obtain rfl : k = l.length := by omega
      rw [List.take_length]
      go_wp2
      go_ret
      exact ⟨rfl, rfl⟩

theorem refSum_any (l : List Int) (v : Value) (w : World) (hv : Octs w v l) :
    Calls Try.prog 46 #[v] w fun e w' => e = .returned (.int .u32 ((ext ones l).toNat : Int)) ∧ w' = w := by
  have HV : Hid (Octs w v l) := hv
  clear hv
  go_enter Try.func46, Try.ntmps46
  go_wp2_with fail
  refine (refExtend_any ones l _ _ HV.out).mono ?_
  rintro e w1 ⟨rfl, rfl⟩
  go_wp2
  go_ret
  exact ⟨rfl, rfl⟩

set_option maxHeartbeats 400000 in
theorem copy_any (l : List Int) (v : Value) (w : World) (hv : Octs w v l) (hl : l.length ≤ 140737488355328) :
    Calls Try.prog 10 #[v] w fun e w' => ∃ v', e = .returned v' ∧ OwnB w' w.heap.size v' l ∧ Below w.heap.size w w' := by
  have HV : Hid (Octs w v l) := hv
  clear hv
  go_enter Try.func10, Try.ntmps10
  go_wp2_with (at_builtin; refine wpList_append_octs _ rfl _ _ rfl w.heap.size _ [] rfl (World.ownsRow_nil _ _ _ _) _ l rfl HV.out ?c1 (Nat.le_refl _) ?_)
  case c1 => simpa using hl
  intro v' w' hown hg
  go_wp2
  go_ret
  refine ⟨_, rfl, hown, ?_⟩
  exact (Below.refl _ _).grown hg (Nat.le_refl _) (by simp [Value.ownBlock])

set_option maxHeartbeats 400000 in
theorem copied_any (l : List Int) (v : Value) (w : World) (hv : Octs w v l) (hl : l.length ≤ 140737488355328) :
    Calls Try.prog 47 #[v] w fun e w' => ∃ v', e = .returned v' ∧ OwnB w' w.heap.size v' l ∧ Below w.heap.size w w' := by
  have HV : Hid (Octs w v l) := hv
  clear hv
  go_enter Try.func47, Try.ntmps47
  go_wp2_with (at_builtin; refine wpList_append_octs _ rfl _ _ rfl w.heap.size _ [] rfl (World.ownsRow_nil _ _ _ _) _ l rfl HV.out ?c1 (Nat.le_refl _) ?_)
  case c1 => simpa using hl
  intro v' w' hown hg
  go_wp2
  go_ret
  refine ⟨_, rfl, hown, ?_⟩
  exact (Below.refl _ _).grown hg (Nat.le_refl _) (by simp [Value.ownBlock])

theorem same_any (l1 l2 : List Int) (v1 v2 : Value) (w : World) (h1 : Octs w v1 l1) (h2 : Octs w v2 l2) :
    Calls Try.prog 17 #[v1, v2] w fun e w' => e = .returned (.bool (decide (l1 = l2))) ∧ w' = w := by
  have k1 := run_convert_octs l1 v1 w h1
  have k2 := run_convert_octs l2 v2 w h2
  have H : Hid (((strOfNums l1).toList == (strOfNums l2).toList) = decide (l1 = l2)) := str_eq l1 l2 h1.1 h2.1
  go_enter Try.func17, Try.ntmps17
  go_wp2
  go_ret
  exact ⟨ret_bool H.out, rfl⟩

end Go.Proofs.Ytibjjhceiohmeaa
