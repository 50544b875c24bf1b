/- The law FrameOwn, walked: what is answered is its holder's. -/
import Derived.Test.YtgkgellmeeljbaaFMath
namespace Go.Proofs.Ytgkgellmeeljbaa
open Go.RowKit SumPlain
set_option linter.unusedVariables false

set_option maxHeartbeats 1000000 in
theorem own_walk (k : Int) (l : List Int) (a : Option Addr) (c : Nat) (w : World) (hv : Octs w (.slice a l.length c) l) (hl : l.length ≤ 140737488355328) :
    Calls Try.prog 7 #[.agg #[.int .i64 k, .slice a l.length c]] w fun e w' => e = .returned (.bool true) ∧ Below w.heap.size w w' := by
  have HV : Hid (Octs w (.slice a l.length c) l) := hv
  clear hv
  go_enter Try.func7, Try.ntmps7
  go_wp2_with fail
  refine (alive_any _).mono ?_
  rintro e w1 ⟨rfl, b1⟩
  have D1 : Hid (w1.heap[w.heap.size]? = some (.cells #[.int .i64 k, .slice a l.length c] 24)) := blk_up (blk_new w _) b1
  have U1 : Hid (Below w.heap.size w w1) := up_trans (up_alloc w _) b1
  clear b1
  have p0 := blk_cell D1.out 0 _ rfl
  have p1 := blk_cell D1.out 1 _ rfl
  go_wp2_with fail
  refine (of_any k l a c _ (HV.out.up U1.out) hl).mono ?_
  rintro e w2 ⟨a', n', c', rfl, hn, ho, b2⟩
  have hn' := hn.out
  subst hn'
  have U2 : Hid (Below w.heap.size w w2) := up_trans U1.out b2
  have D2 : Hid (w2.heap[w.heap.size]? = some (.cells #[.int .i64 k, .slice a l.length c] 24)) := blk_up D1.out b2
  have O2 : Hid (OwnB w2 w1.heap.size (.slice a' l.length c') l) := ho
  have B2 : Hid (Below w1.heap.size w1 w2) := b2
  clear p0 p1 b2 ho hn
  go_wp2_with fail
  have D3 : Hid ((w2.alloc (.cells #[.int .i64 k, .slice a' l.length c'] 25)).heap[w2.heap.size]? = some (.cells #[.int .i64 k, .slice a' l.length c'] 25)) := blk_new _ _
  have E3 : Hid ((w2.alloc (.cells #[.int .i64 k, .slice a' l.length c'] 25)).heap[w.heap.size]? = some (.cells #[.int .i64 k, .slice a l.length c] 24)) := blk_up D2.out (up_alloc _ _)
  have U3 : Hid (Below w.heap.size w (w2.alloc (.cells #[.int .i64 k, .slice a' l.length c'] 25))) := up_trans U2.out (up_alloc _ _)
  have O3 : Hid (OwnB (w2.alloc (.cells #[.int .i64 k, .slice a' l.length c'] 25)) w1.heap.size (.slice a' l.length c') l) := own_up O2.out (up_alloc _ _)
  have S3 : Hid (w2.heap.size < (w2.alloc (.cells #[.int .i64 k, .slice a' l.length c'] 25)).heap.size) := blk_lt D3.out
  have S0 : Hid (w.heap.size < w1.heap.size ∧ w1.heap.size ≤ w2.heap.size) := ⟨blk_lt D1.out, B2.out.size⟩
  have N3 : Hid (∀ g, (Value.slice a' l.length c').ownBlock = some g → g < w2.heap.size) := fun g hg => (O2.out.lt g hg).2
  generalize w2.alloc (.cells #[.int .i64 k, .slice a' l.length c'] 25) = w3 at *
  by_cases hgood : 0 ≤ k ∧ k ≤ 255 ∧ l.length ≤ 65536
  · obtain ⟨k0, k1, hl6⟩ := hgood
    refine (fput_good k a' c' l _ (Octs.own O3.out HV.out.1) k0 k1 hl6).mono ?_
    rintro e w4 ⟨v4, rfl, o4, b4⟩
    have HX : Hid (∀ x ∈ frameOf k l, 0 ≤ x ∧ x ≤ 255) := frame_octet k l ⟨k0, k1⟩ hl6 HV.out.1
    have HL : Hid ((frameOf k l).length ≤ 140737488355328) := by
      unfold Hid
      rw [frame_len]
      have := octets_len (l.length : Int) (by omega) (by omega)
      omega
    have HE : Hid (fget (frameOf k l) = (k, l, ((frameOf k l).length : Int), 0)) := by
      have := fget_back k l [] hl6
      rw [List.append_nil] at this
      exact this
    obtain ⟨a4, n4, c4, rfl, N4⟩ := own_shape o4
    have D4 : Hid (w4.heap[w2.heap.size]? = some (.cells #[.int .i64 k, .slice a' l.length c'] 25)) := blk_up D3.out b4
    have E4 : Hid (w4.heap[w.heap.size]? = some (.cells #[.int .i64 k, .slice a l.length c] 24)) := blk_up E3.out b4
    have U4 : Hid (Below w.heap.size w w4) := up_trans U3.out b4
    have P4 : Hid (OwnB w4 w1.heap.size (.slice a' l.length c') l) := own_up O3.out b4
    have O4 : Hid (OwnB w4 w3.heap.size (.slice a4 n4 c4) (frameOf k l)) := o4
    clear o4 b4 D3 E3 O3 U3
    have p0 := blk_cell D4.out 0 _ rfl
    have p1 := blk_cell D4.out 1 _ rfl
    go_wp2_with fail
    refine (num_any _ _).mono ?_
    rintro e w5 ⟨rfl, rfl⟩
    go_wp2_with fail
    refine (spoil_any l _ _ _ P4.out HV.out.1 hl).mono ?_
    rintro e w6 ⟨⟨u, rfl⟩, g6⟩
    have hS := S0.out
    have hS3 := S3.out
    have D6 : Hid (w6.heap[w2.heap.size]? = some (.cells #[.int .i64 k, .slice a' l.length c'] 25)) := blk_grown D4.out g6 (fun e => by have := N3.out _ e.symm; omega)
    have E6 : Hid (w6.heap[w.heap.size]? = some (.cells #[.int .i64 k, .slice a l.length c] 24)) := blk_grown E4.out g6 (fun e => by have := (P4.out.lt _ e.symm).1; omega)
    have U6 : Hid (Below w.heap.size w w6) := U4.out.grown g6 U4.out.size (fun j hj => by have := (P4.out.lt j hj).1; omega)
    have O6 : Hid (OwnB w6 w3.heap.size (.slice a4 n4 c4) (frameOf k l)) := O4.out.kept g6 (by
      cases h : (Value.slice a4 n4 c4).ownBlock with
      | none => exact .inl rfl
      | some g =>
        refine .inr fun e => ?_
        have := (O4.out.lt g h).1
        have := N3.out g e.symm
        omega)
    clear p0 p1 D4 E4 U4 P4 O4 g6 hS hS3
    go_wp2_with fail
    refine (fget_any (frameOf k l) _ _ (Octs.own O6.out HX.out)).mono ?_
    rintro e w7 ⟨v7, rfl, o7, b7⟩
    rw [HE.out] at o7 ⊢
    obtain ⟨a7, c7, rfl, _, _⟩ := o7.1.len
    have E7 : Hid (w7.heap[w.heap.size]? = some (.cells #[.int .i64 k, .slice a l.length c] 24)) := blk_up E6.out b7
    have U7 : Hid (Below w.heap.size w w7) := up_trans U6.out b7
    have O7 : Hid (OwnB w7 w3.heap.size (.slice a4 n4 c4) (frameOf k l)) := own_up O6.out b7
    have Q7 : Hid (NewB w7 w6.heap.size (.slice a7 l.length c7) l) := o7
    have L7 : Hid (∀ g, (Value.slice a4 n4 c4).ownBlock = some g → g < w6.heap.size) := fun g hg => (O6.out.lt g hg).2
    clear o7 b7 E6 U6 O6
    go_wp2_with fail
    have D8 : Hid ((w7.alloc (.cells #[.int .i64 k, .slice a7 l.length c7] 25)).heap[w7.heap.size]? = some (.cells #[.int .i64 k, .slice a7 l.length c7] 25)) := blk_new _ _
    have E8 : Hid ((w7.alloc (.cells #[.int .i64 k, .slice a7 l.length c7] 25)).heap[w.heap.size]? = some (.cells #[.int .i64 k, .slice a l.length c] 24)) := blk_up E7.out (up_alloc _ _)
    have U8 : Hid (Below w.heap.size w (w7.alloc (.cells #[.int .i64 k, .slice a7 l.length c7] 25))) := up_trans U7.out (up_alloc _ _)
    have O8 : Hid (OwnB (w7.alloc (.cells #[.int .i64 k, .slice a7 l.length c7] 25)) w3.heap.size (.slice a4 n4 c4) (frameOf k l)) := own_up O7.out (up_alloc _ _)
    have Q8 : Hid (NewB (w7.alloc (.cells #[.int .i64 k, .slice a7 l.length c7] 25)) w6.heap.size (.slice a7 l.length c7) l) := Q7.out.up (up_alloc _ _)
    have M8 : Hid (∀ g, (Value.slice a4 n4 c4).ownBlock = some g → g < w7.heap.size) := fun g hg => (O7.out.lt g hg).2
    generalize w7.alloc (.cells #[.int .i64 k, .slice a7 l.length c7] 25) = w8 at *
    refine (spoil_any _ _ _ _ O8.out HX.out HL.out).mono ?_
    rintro e w9 ⟨⟨u, rfl⟩, g9⟩
    have hS := S0.out
    have hS3 := S3.out
    have D9 := blk_grown D8.out g9 (fun e => by have := M8.out _ e.symm; omega)
    have E9 := blk_grown E8.out g9 (fun e => by have := (O8.out.lt _ e.symm).1; omega)
    have U9 : Hid (Below w.heap.size w w9) := U8.out.grown g9 U8.out.size (fun j hj => by have := (O8.out.lt j hj).1; omega)
    have Q9 : Hid (Octs w9 (.slice a7 l.length c7) l) := (Q8.out.far g9 (fun g hg e => by have := Q8.out.2 g hg; have := L7.out g e; omega)).1
    have p0 := blk_cell D9 0 _ rfl
    have p1 := blk_cell D9 1 _ rfl
    have q0 := blk_cell E9 0 _ rfl
    have q1 := blk_cell E9 1 _ rfl
    clear D9 E9 hS hS3 g9
    go_wp2_with fail
    refine (num_any _ _).mono ?_
    rintro e w10 ⟨rfl, rfl⟩
    go_wp2_with fail
    refine (same2_any k k l l _ _ _ Q9.out (HV.out.up U9.out)).mono ?_
    rintro e w11 ⟨rfl, b11⟩
    have U11 : Hid (Below w.heap.size w w11) := up_trans U9.out b11
    clear p0 p1 q0 q1 b11
    go_wp2
    go_ret
    exact ⟨ret_bool (by simp), U11.out⟩
  · obtain ⟨x, hx, hc⟩ := fput_bad k a' l.length c' hgood
    refine (hc _).mono ?_
    rintro e w4 ⟨rfl, b4⟩
    have U4 : Hid (Below w.heap.size w w4) := up_trans U3.out b4
    have hx' : (x == 0) = false := by rcases hx with rfl | rfl <;> rfl
    go_wp2_with fail
    refine (num_any _ _).mono ?_
    rintro e w5 ⟨rfl, rfl⟩
    go_wp2
    go_ret
    exact ⟨rfl, U4.out⟩
end Go.Proofs.Ytgkgellmeeljbaa
