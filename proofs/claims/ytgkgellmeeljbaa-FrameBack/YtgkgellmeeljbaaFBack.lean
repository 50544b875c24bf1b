/- The law FrameBack, walked: a record comes back from its octets, whatever stands behind. -/
import Derived.Test.YtgkgellmeeljbaaFWide
namespace Go.Proofs.Ytgkgellmeeljbaa
open Go.RowKit SumPlain
set_option linter.unusedVariables false

set_option maxHeartbeats 1000000 in
theorem back_walk (k : Int) (l : List Int) (a : Option Addr) (c : Nat) (vm : Value) (m : List Int) (w : World) (hv : Octs w (.slice a l.length c) l) (hl : l.length ≤ 140737488351232) (hm : Octs w vm m) (hml : m.length ≤ 140737488351232) :
    Calls Try.prog 5 #[.agg #[.int .i64 k, .slice a l.length c], vm] w fun e w' => e = .returned (.bool true) ∧ Below w.heap.size w w' := by
  have HV : Hid (Octs w (.slice a l.length c) l) := hv
  obtain ⟨am, cm, rfl, _, _⟩ := hm.len
  have HM : Hid (Octs w (.slice am m.length cm) m) := hm
  clear hv hm
  go_enter Try.func5, Try.ntmps5
  go_wp2_with fail
  refine (alive_any _).mono ?_
  rintro e w1 ⟨rfl, b1⟩
  have D1 : Hid (w1.heap[w.heap.size]? = some (.cells #[.int .i64 k, .slice a l.length c] 24)) := blk_up (blk_new w _) b1
  have U1 : Hid (Below w.heap.size w w1) := up_trans (up_alloc w _) b1
  clear b1
  have p0 := blk_cell D1.out 0 _ rfl
  have p1 := blk_cell D1.out 1 _ rfl
  go_wp2_with fail
  refine (of_any k l a c _ (HV.out.up U1.out) (by omega)).mono ?_
  rintro e w2 ⟨a', n', c', rfl, hn, ho, b2⟩
  have hn' := hn.out
  subst hn'
  have U2 : Hid (Below w.heap.size w w2) := up_trans U1.out b2
  have D2 : Hid (w2.heap[w.heap.size]? = some (.cells #[.int .i64 k, .slice a l.length c] 24)) := blk_up D1.out b2
  have O2 : Hid (OwnB w2 w1.heap.size (.slice a' l.length c') l) := ho
  clear p0 p1 b2 ho hn
  go_wp2_with fail
  by_cases hgood : 0 ≤ k ∧ k ≤ 255 ∧ l.length ≤ 65536
  · obtain ⟨k0, k1, hl6⟩ := hgood
    refine (fput_good k a' c' l _ (Octs.own O2.out HV.out.1) k0 k1 hl6).mono ?_
    rintro e w4 ⟨v4, rfl, o4, b4⟩
    have HX : Hid (∀ x ∈ frameOf k l, 0 ≤ x ∧ x ≤ 255) := frame_octet k l ⟨k0, k1⟩ hl6 HV.out.1
    have HL : Hid ((frameOf k l).length ≤ 70000) := by
      unfold Hid
      rw [frame_len]
      have := octets_len (l.length : Int) (by omega) (by omega)
      omega
    have HE : Hid (fget (frameOf k l ++ m) = (k, l, ((frameOf k l).length : Int), 0)) := fget_back k l m hl6
    obtain ⟨a4, n4, c4, rfl, N4⟩ := own_shape o4
    have hn4 := N4.out
    subst hn4
    have D4 : Hid (w4.heap[w.heap.size]? = some (.cells #[.int .i64 k, .slice a l.length c] 24)) := blk_up D2.out b4
    have U4 : Hid (Below w.heap.size w w4) := up_trans U2.out b4
    have O4 : Hid (OwnB w4 w2.heap.size (.slice a4 (frameOf k l).length c4) (frameOf k l)) := o4
    clear o4 b4 N4
    go_wp2_with fail
    refine (num_any _ _).mono ?_
    rintro e w5 ⟨rfl, rfl⟩
    go_wp2_with fail
    refine (copy_any (frameOf k l) _ _ (Octs.own O4.out HX.out) (by have := HL.out; omega)).mono ?_
    rintro e w6 ⟨v6, rfl, o6, b6⟩
    obtain ⟨a6, n6, c6, rfl, N6⟩ := own_shape o6
    have D6 : Hid (w6.heap[w.heap.size]? = some (.cells #[.int .i64 k, .slice a l.length c] 24)) := blk_up D4.out b6
    have U6 : Hid (Below w.heap.size w w6) := up_trans U4.out b6
    have O6 : Hid (OwnB w6 w5.heap.size (.slice a6 n6 c6) (frameOf k l)) := o6
    have M6 : Hid (Octs w6 (.slice am m.length cm) m) := HM.out.up U6.out
    have S6 : Hid (w5.heap.size ≤ w6.heap.size) := b6.size
    have S5 : Hid (w.heap.size < w5.heap.size) := blk_lt D4.out
    clear o6 b6 N6 D4
    go_wp2_with (at_builtin; refine wpList_append_octs_wide _ rfl _ _ rfl w5.heap.size _ _ rfl O6.out _ m rfl M6.out ?c1 S6.out ?_)
    case c1 => have := HL.out; omega
    intro v7 w7 o7 g7
    obtain ⟨a7, n7, c7, rfl, N7⟩ := own_shape o7
    have s5 := S5.out
    have D7 : Hid (w7.heap[w.heap.size]? = some (.cells #[.int .i64 k, .slice a l.length c] 24)) := blk_grown D6.out g7 (fun e => by have := (O6.out.lt _ e.symm).1; omega)
    have U7 : Hid (Below w.heap.size w w7) := U6.out.grown g7 U6.out.size (fun j hj => by have := (O6.out.lt j hj).1; omega)
    have O7 : Hid (Octs w7 (.slice a7 n7 c7) (frameOf k l ++ m)) := Octs.own o7 (fun x hx => by
      rcases List.mem_append.1 hx with h | h
      · exact HX.out x h
      · exact HM.out.1 x h)
    clear o7 g7 N7 O6 M6 D6 U6 s5
    go_wp2_with fail
    refine (fget_any _ _ _ O7.out).mono ?_
    rintro e w8 ⟨v8, rfl, o8, b8⟩
    rw [HE.out] at o8 ⊢
    obtain ⟨a8, c8, rfl, _, _⟩ := o8.1.len
    have D8 := blk_up (blk_up D7.out b8) (up_alloc w8 (.cells #[.int .i64 k, .slice a8 l.length c8] 25))
    have F8 := blk_new w8 (.cells #[.int .i64 k, .slice a8 l.length c8] 25)
    have U8 : Hid (Below w.heap.size w (w8.alloc (.cells #[.int .i64 k, .slice a8 l.length c8] 25))) := up_trans (up_trans U7.out b8) (up_alloc _ _)
    have Q8 : Hid (Octs (w8.alloc (.cells #[.int .i64 k, .slice a8 l.length c8] 25)) (.slice a8 l.length c8) l) := o8.1.up (up_alloc _ _)
    have p0 := blk_cell F8 0 _ rfl
    have p1 := blk_cell F8 1 _ rfl
    have q0 := blk_cell D8 0 _ rfl
    have q1 := blk_cell D8 1 _ rfl
    clear D8 F8 o8 b8 D7 U7 O7
    go_wp2_with fail
    refine (num_any _ _).mono ?_
    rintro e w9 ⟨rfl, rfl⟩
    go_wp2_with fail
    refine (same2_any k k l l _ _ _ Q8.out (HV.out.up U8.out)).mono ?_
    rintro e w10 ⟨rfl, b10⟩
    have U10 : Hid (Below w.heap.size w w10) := up_trans U8.out b10
    clear p0 p1 q0 q1 b10
    have hd : (decide (k = k) && decide (l = l)) = true := by simp
    rw [hd]
    go_wp2
    go_ret
    exact ⟨rfl, U10.out⟩
  · obtain ⟨x, hx, hc⟩ := fput_bad k a' l.length c' hgood
    refine (hc _).mono ?_
    rintro e w4 ⟨rfl, b4⟩
    have U4 : Hid (Below w.heap.size w w4) := up_trans U2.out b4
    have D4 := blk_up D2.out b4
    have q0 := blk_cell D4 0 _ rfl
    have q1 := blk_cell D4 1 _ rfl
    clear D4
    have hx' : (x == 0) = false := by rcases hx with rfl | rfl <;> rfl
    go_wp2_with fail
    refine (num_any _ _).mono ?_
    rintro e w5 ⟨rfl, rfl⟩
    by_cases c1 : k < 0
    · go_wp2
      go_ret
      exact ⟨rfl, U4.out⟩
    · by_cases c2 : 255 < k
      · go_wp2
        go_ret
        exact ⟨rfl, U4.out⟩
      · have c3 : (65536 : Int) < (l.length : Int) := by omega
        go_wp2
        go_ret
        exact ⟨rfl, U4.out⟩
end Go.Proofs.Ytgkgellmeeljbaa
