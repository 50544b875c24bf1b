/- The law FrameRot, walked: a record one of whose octets, behind its length, is another one, is refused. -/
import Derived.Test.YtgkgellmeeljbaaFRotM
namespace Go.Proofs.Ytgkgellmeeljbaa
open Go.RowKit SumPlain
set_option linter.unusedVariables false

theorem place (a N : Int) (hN : 0 < N) (hM : N ≤ 1152921504606846976) : ∃ p : Nat, (wrap64 (a.tmod N + N)).tmod N = (p : Int) ∧ (p : Int) < N := by
  have h1 := Int.tmod_lt_of_pos a hN
  have h2 : -N < a.tmod N := by
    have := Int.lt_tmod_of_pos a hN
    exact this
  generalize a.tmod N = q at *
  have e : wrap64 (q + N) = q + N := by
    unfold wrap64
    omega
  rw [e]
  have h3 := Int.tmod_lt_of_pos (q + N) hN
  have h4 : 0 ≤ (q + N).tmod N := Int.tmod_nonneg N (by omega)
  exact ⟨((q + N).tmod N).toNat, by omega, by omega⟩

set_option maxHeartbeats 1000000 in
theorem rot_walk (k : Int) (l : List Int) (a : Option Addr) (c : Nat) (at_ b : Int) (w : World) (hv : Octs w (.slice a l.length c) l) (hl : l.length ≤ 140737488351232) (hb0 : 0 ≤ b) (hb1 : b ≤ 255) :
    Calls Try.prog 6 #[.agg #[.int .i64 k, .slice a l.length c], .int .i64 at_, .int .u8 b] w fun e w' => e = .returned (.bool true) ∧ Below w.heap.size w w' := by
  have HV : Hid (Octs w (.slice a l.length c) l) := hv
  clear hv
  go_enter Try.func6, Try.ntmps6
  go_wp2_with fail
  refine (alive_any _).mono ?_
  rintro e w1 ⟨rfl, b1⟩
  have D1 : Hid (w1.heap[w.heap.size]? = some (.cells #[.int .i64 k, .slice a l.length c] 24)) := blk_up (blk_new w _) b1
  have U1 : Hid (Below w.heap.size w w1) := up_trans (up_alloc w _) b1
  clear b1
  have p0 := blk_cell D1.out 0 _ rfl
  have p1 := blk_cell D1.out 1 _ rfl
  go_wp2_with fail
  refine (of_any k l a c _ (HV.out.up U1.out) (by omega)).mono ?_
  rintro e w2 ⟨a', n', c', rfl, hn, ho, b2⟩
  have hn' := hn.out
  subst hn'
  have U2 : Hid (Below w.heap.size w w2) := up_trans U1.out b2
  have D2 : Hid (w2.heap[w.heap.size]? = some (.cells #[.int .i64 k, .slice a l.length c] 24)) := blk_up D1.out b2
  have O2 : Hid (OwnB w2 w1.heap.size (.slice a' l.length c') l) := ho
  clear p0 p1 b2 ho hn
  go_wp2_with fail
  by_cases hgood : 0 ≤ k ∧ k ≤ 255 ∧ l.length ≤ 65536
  · obtain ⟨k0, k1, hl6⟩ := hgood
    refine (fput_good k a' c' l _ (Octs.own O2.out HV.out.1) k0 k1 hl6).mono ?_
    rintro e w4 ⟨v4, rfl, o4, b4⟩
    have HX : Hid (∀ x ∈ frameOf k l, 0 ≤ x ∧ x ≤ 255) := frame_octet k l ⟨k0, k1⟩ hl6 HV.out.1
    have HL : Hid ((frameOf k l).length ≤ 70000) := by
      unfold Hid
      rw [frame_len]
      have := octets_len (l.length : Int) (by omega) (by omega)
      omega
    obtain ⟨g, c4, rfl, G1, G2, hc4, hm4⟩ := own_form o4 (by intro e; have := frame_len k l; rw [e] at this; simp at this)
    have hF := frame_len k l
    have D4 : Hid (w4.heap[w.heap.size]? = some (.cells #[.int .i64 k, .slice a l.length c] 24)) := blk_up D2.out b4
    have U4 : Hid (Below w.heap.size w w4) := up_trans U2.out b4
    have O4 : Hid (OwnB w4 w2.heap.size (.slice (some ⟨g, 0, none⟩) (frameOf k l).length c4) (frameOf k l)) := o4
    have S4 : Hid (w.heap.size < w2.heap.size ∧ w2.heap.size ≤ g) := ⟨blk_lt D2.out, G1⟩
    clear o4 b4
    have q0 := blk_cell D4.out 0 _ rfl
    have q1 := blk_cell D4.out 1 _ rfl
    by_cases hb : b = 0
    · subst hb
      go_wp2_with fail
      refine (num_any _ _).mono ?_
      rintro e w5 ⟨rfl, rfl⟩
      go_wp2_with fail
      refine (num_any _ _).mono ?_
      rintro e w6 ⟨rfl, rfl⟩
      go_wp2
      go_ret
      exact ⟨rfl, U4.out⟩
    · have hb' : (b == 0) = false := by simp [hb]
      obtain ⟨q, hq, hqn⟩ := place at_ ((l.length : Int) + 5) (by omega) (by omega)
      have HQ : Hid ((wrap64 (at_.tmod ((l.length : Int) + 5) + ((l.length : Int) + 5))).tmod ((l.length : Int) + 5) = (q : Int)) := hq
      clear hq
      obtain ⟨N, hN⟩ : ∃ N, N = (frameOf k l).length := ⟨_, rfl⟩
      obtain ⟨p, hp⟩ : ∃ p, p = (octets (l.length : Int)).length + q := ⟨_, rfl⟩
      have hpN : p < N := by omega
      have hpN' : (N : Int) - ((l.length : Int) + 5) + (q : Int) = (p : Int) := by omega
      obtain ⟨y, hy⟩ : ∃ y, (frameOf k l)[p]? = some y := ⟨_, List.getElem?_eq_getElem (by omega)⟩
      have hyo := HX.out y (List.mem_of_getElem? hy)
      have HE : Hid (fget ((frameOf k l).set p (bits .xor .u8 y b)) = (0, [], 0, 21)) := by
        unfold Hid
        rw [hp] at hy ⊢
        exact fget_rot k l ⟨k0, k1⟩ hl6 HV.out.1 q (by omega) b y ⟨by omega, hb1⟩ hy
      have ho := O4.out
      unfold OwnB at ho
      have hc0 := ho.cellAt p (by omega)
      have hf0 := ho.frozenAt p
      rw [List.getElem?_map, hy] at hc0
      simp only [Option.map_some] at hc0
      have HSt : Hid (Octs (w4.setCell ⟨g, p, none⟩ (.int .u8 (bits .xor .u8 y b))) (.slice (some ⟨g, 0, none⟩) N c4) ((frameOf k l).set p (bits .xor .u8 y b)) ∧ w4.grownBy (w4.setCell ⟨g, p, none⟩ (.int .u8 (bits .xor .u8 y b))) (some g)) := by
        have hst := ho.stored p (.int .u8 (bits .xor .u8 y b))
        refine ⟨?_, hst.2⟩
        have h1 : OwnB (w4.setCell ⟨g, p, none⟩ (.int .u8 (bits .xor .u8 y b))) w2.heap.size (.slice (some ⟨g, 0, none⟩) N c4) ((frameOf k l).set p (bits .xor .u8 y b)) := by
          unfold OwnB
          rw [List.length_set, List.map_set, hN]
          exact hst.1
        refine Octs.own h1 ?_
        intro x hx
        rcases List.mem_or_eq_of_mem_set hx with h2 | h2
        · exact HX.out x h2
        · rw [h2]; exact xor_u8 _ _
      rw [← hN] at hc4 ho O4 ⊢
      have h65 : ¬ (N : Int) < (l.length : Int) + 5 := by omega
      have HL5 : Hid (N ≤ 70000) := by unfold Hid; rw [hN]; exact HL.out
      have hl6' : (l.length : Int) ≤ 65536 := by omega
      have hN7 : N ≤ 70000 := HL5.out
      have hidx : wrap64 ((N : Int) - ((l.length : Int) + 5) + (wrap64 (at_.tmod ((l.length : Int) + 5) + ((l.length : Int) + 5))).tmod ((l.length : Int) + 5)) = (p : Int) := by
        rw [HQ.out, hpN']
        unfold wrap64
        omega
      clear hpN' hqn HQ
      clear ho hF hN hp hy D1 D2 O2 O4 HL HX G1 G2
      go_wp2_with fail
      refine (num_any _ _).mono ?_
      rintro e w5 ⟨rfl, rfl⟩
      go_wp2_with fail
      have U5 : Hid (Below w.heap.size w (w5.setCell ⟨g, p, none⟩ (.int .u8 (bits .xor .u8 y b)))) := U4.out.grown HSt.out.2 U4.out.size (fun j hj => by have := S4.out; simp at hj; omega)
      refine (fget_any _ _ _ HSt.out.1).mono ?_
      rintro e w8 ⟨v8, rfl, o8, b8⟩
      rw [HE.out] at o8 ⊢
      obtain ⟨a8, c8, rfl, _, _⟩ := o8.1.len
      have F8 := blk_new w8 (.cells #[.int .i64 0, .slice a8 (([] : List Int).length) c8] 25)
      have U8 : Hid (Below w.heap.size w (w8.alloc (.cells #[.int .i64 0, .slice a8 (([] : List Int).length) c8] 25))) := up_trans (up_trans U5.out b8) (up_alloc _ _)
      have p0 := blk_cell F8 0 _ rfl
      have p1 := blk_cell F8 1 _ rfl
      clear F8 o8 b8 hc0 hf0 q0 q1
      go_wp2_with fail
      refine (num_any _ _).mono ?_
      rintro e w9 ⟨rfl, rfl⟩
      go_wp2
      go_ret
      exact ⟨rfl, U8.out⟩
  · obtain ⟨x, hx, hc⟩ := fput_bad k a' l.length c' hgood
    refine (hc _).mono ?_
    rintro e w4 ⟨rfl, b4⟩
    have U4 : Hid (Below w.heap.size w w4) := up_trans U2.out b4
    have hx' : (x == 0) = false := by rcases hx with rfl | rfl <;> rfl
    go_wp2_with fail
    refine (num_any _ _).mono ?_
    rintro e w5 ⟨rfl, rfl⟩
    go_wp2_with fail
    refine (num_any _ _).mono ?_
    rintro e w6 ⟨rfl, rfl⟩
    go_wp2
    go_ret
    exact ⟨rfl, U4.out⟩
end Go.Proofs.Ytgkgellmeeljbaa
