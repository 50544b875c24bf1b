/- The walk of BloomOwn. -/
import Derived.Test.YtbhlphhgibikeaaBAlive
namespace Go.Proofs.Ytbhlphhgibikeaa
open Go.RowKit
set_option linter.unusedVariables false
set_option linter.unusedSimpArgs false

theorem decF_oct {l : List Int} (h : OctL l) : OctL (decF l).2.1 := by
  unfold decF
  split
  · exact oct_nil
  · split
    · intro x hx
      exact h x (List.mem_of_mem_drop hx)
    · exact oct_nil
theorem decF_err (l : List Int) : ((chkE (decF l).1 (decF l).2.1.length == 0) == ((decF l).2.2 == 0)) = true := by
  by_cases h : (decF l).2.2 = 0
  · have h1 := (enc_dec h).1
    have hc : chkE (decF l).1 (decF l).2.1.length = 0 := by unfold chkE; rw [if_pos h1]
    rw [h, hc]
    rfl
  · have hd : (decF l).1 = 0 ∧ (decF l).2.1 = [] := by
      unfold decF at h ⊢
      split
      · exact ⟨rfl, rfl⟩
      · rename_i h2
        split
        · rename_i h3
          rw [if_neg h2, if_pos h3] at h
          exact absurd rfl h
        · exact ⟨rfl, rfl⟩
    have hc : chkE (decF l).1 (decF l).2.1.length = 9 := by rw [hd.1, hd.2]; rfl
    rw [hc]
    have hf : ((decF l).2.2 == 0) = false := by simp [h]
    rw [hf]
    rfl
theorem decF_len (l : List Int) : (decF l).2.1.length ≤ l.length := by
  unfold decF
  split
  · simp
  · split
    · simp
    · simp

/-- A filter lies in a block, its octets elsewhere. -/
structure FilW (W : World) (N : Nat) (t : TypeId) (k : Int) (a : Option Addr) (n c : Nat) (l : List Int) : Prop where
  blk : W.heap[N]? = some (.cells #[.int .i64 k, .slice a n c] t)
  oct : Octs W (.slice a n c) l
theorem FilW.up {W W' : World} {N : Nat} {t : TypeId} {k : Int} {a : Option Addr} {n c : Nat} {l : List Int} (h : FilW W N t k a n c l) (hb : Below W.heap.size W W') : FilW W' N t k a n c l := ⟨blk_up h.blk hb, h.oct.up hb⟩
theorem FilW.far {W W' : World} {N : Nat} {t : TypeId} {k : Int} {a : Option Addr} {n c : Nat} {l : List Int} {r : Option Nat} (h : FilW W N t k a n c l) (hg : W.grownBy W' r) (h1 : some N ≠ r) (h2 : ∀ b, (Value.slice a n c).ownBlock = some b → l ≠ [] → some b ≠ r) : FilW W' N t k a n c l := ⟨blk_grown h.blk hg h1, h.oct.far hg h2⟩

set_option maxHeartbeats 2000000 in
theorem own_walk (l : List Int) (v : Value) (w : World) (hv : Octs w v l) (hl : l.length ≤ 140737488351232) :
    Calls Try.prog 8 #[v] w fun e w' => e = .returned (.bool true) ∧ Below w.heap.size w w' := by
  obtain ⟨va, vc, rfl, _, _⟩ := hv.len
  have HV : Hid (Octs w (.slice va l.length vc) l) := hv
  have HA : Hid (∀ w : World, Calls Try.prog 20 #[] w fun e w' => e = .returned (.bool true) ∧ Hid (Below w.heap.size w w')) := fun w => alive_any w
  have HN : Hid (∀ (x : Int) (w : World), Calls Try.prog 18 #[.int .i64 x] w fun e w' => e = .returned (.int .i64 x) ∧ w' = w) := fun x w => num_any x w
  have HOL := decF_oct hv.1
  have HER := decF_err l
  have HLL := decF_len l
  have HOV : Hid (OctL l) := hv.1
  have HCP : Hid (∀ w1 : World, Below w.heap.size w w1 → Calls Try.prog 21 #[.slice va l.length vc] w1 fun e w' => ∃ a n c, e = .returned (.slice a n c) ∧ Hid (n = l.length) ∧ Hid (OwnB w' w1.heap.size (.slice a n c) l) ∧ Hid (Below w1.heap.size w1 w')) := by
    intro w1 hb
    refine (copy_any l _ w1 (hv.up hb) (by omega)).mono ?_
    rintro e w' ⟨v', rfl, ho, hb'⟩
    obtain ⟨a, n, c, rfl, hn⟩ := own_shape ho
    exact ⟨a, n, c, rfl, hn, ho, hb'⟩
  have HD : Hid (∀ (v : Value) (w1 : World), Octs w1 v l → Calls Try.prog 24 #[v] w1 fun e w' => ∃ a' n' c', e = .returned (.tuple #[.agg #[.int .i64 (decF l).1, .slice a' n' c'], .int .i64 (decF l).2.2]) ∧ Hid (n' = (decF l).2.1.length) ∧ Hid (OwnB w' w1.heap.size (.slice a' n' c') (decF l).2.1) ∧ Hid (Below w1.heap.size w1 w')) := fun v w1 h => decode_any l v w1 h (by omega)
  have HR : Hid (∀ (v : Value) (w1 : World), Octs w1 v l → Calls Try.prog 25 #[v] w1 fun e w' => ∃ a' n' c', e = .returned (.tuple #[.agg #[.int .i64 (decF l).1, .slice a' n' c'], .int .i64 (decF l).2.2]) ∧ Hid (n' = (decF l).2.1.length) ∧ Hid (OwnB w' w1.heap.size (.slice a' n' c') (decF l).2.1) ∧ Hid (Below w1.heap.size w1 w')) := fun v w1 h => refDecode_any l v w1 h (by omega)
  have HLN : Hid (l.length ≤ 140737488351232) := hl
  clear hv
  generalize (decF l).1 = k at *
  generalize (decF l).2.1 = f at *
  generalize (decF l).2.2 = g at *
  have HSM : Hid (∀ (a1 a2 : Option Addr) (n1 n2 c1 c2 : Nat) (W : World), Octs W (.slice a1 n1 c1) f → Octs W (.slice a2 n2 c2) f → Calls Try.prog 17 #[.agg #[.int .i64 k, .slice a1 n1 c1], .agg #[.int .i64 k, .slice a2 n2 c2]] W fun e w' => e = .returned (.bool true) ∧ Hid (Below W.heap.size W w')) := by
    intro a1 a2 n1 n2 c1 c2 W h1 h2
    refine (same2_any k k f f _ _ W h1 h2).mono ?_
    rintro e w' ⟨rfl, hb⟩
    exact ⟨by simp, hb⟩
  have HEN : Hid (∀ (a : Option Addr) (n c : Nat) (W : World), n = f.length → Octs W (.slice a n c) f → Calls Try.prog 22 #[.agg #[.int .i64 k, .slice a n c]] W fun e w' => ∃ a' n' c', e = .returned (.tuple #[.slice a' n' c', .int .i64 (chkE k f.length)]) ∧ Hid (OwnB w' W.heap.size (.slice a' n' c') (encL k f)) ∧ Hid (Below W.heap.size W w')) := by
    rintro a n c W rfl h
    refine (encode_any k f a c W h).mono ?_
    rintro e w' ⟨a', n', c', rfl, _, ho, hb⟩
    exact ⟨a', n', c', rfl, ho, hb⟩
  have HOE : Hid (OctL (encL k f) ∧ (encL k f).length ≤ 140737488355328) := by
    unfold Hid encL
    split
    · rename_i h
      obtain ⟨k1, k2, _, _⟩ := may_le h
      refine ⟨?_, by simp; omega⟩
      intro x hx
      rcases List.mem_cons.1 hx with rfl | hx
      · omega
      · exact HOL x hx
    · exact ⟨oct_nil, by simp⟩
  have HOF : Hid (OctL f) := HOL
  clear HOL HLL hl
  generalize chkE k f.length = q at *
  go_enter Try.func8, Try.ntmps8
  go_wp2_with fail
  refine (HA.out _).mono ?_
  rintro e w1 ⟨rfl, b1⟩
  go_wp2_with fail
  refine (HCP.out _ b1.out).mono ?_
  rintro e w2 ⟨oa, on, oc, rfl, hon, hown, b2⟩
  have HO2 : Hid (Octs w2 (.slice oa on oc) l) := Octs.own hown.out HOV.out
  go_wp2_with fail
  refine (HD.out _ _ HO2.out).mono ?_
  rintro e w3 ⟨fa, fn, fc, rfl, hfn, hfo, b3⟩
  have F3 : Hid (FilW (w3.alloc (.cells #[.int .i64 k, .slice fa fn fc] 27)) w3.heap.size 27 k fa fn fc f) := ⟨blk_new _ _, (Octs.own hfo.out HOF.out).up (up_alloc _ _)⟩
  have B3 : Hid (Below w.heap.size w (w3.alloc (.cells #[.int .i64 k, .slice fa fn fc] 27))) := up_al (up_trans (up_trans b1.out b2.out) b3.out) _
  have V3 : Hid (Octs (w3.alloc (.cells #[.int .i64 k, .slice fa fn fc] 27)) (.slice va l.length vc) l) := HV.out.up B3.out
  have O3 : Hid (OwnB (w3.alloc (.cells #[.int .i64 k, .slice fa fn fc] 27)) w1.heap.size (.slice oa on oc) l) := own_up (own_up hown.out b3.out) (up_alloc _ _)
  have X3 : Hid (∀ b, (Value.slice oa on oc).ownBlock = some b → b < w3.heap.size ∧ w1.heap.size ≤ b ∧ (Value.slice fa fn fc).ownBlock ≠ some b) := by
    intro b hb
    have h1 := hown.out.lt b hb
    have h2 := b3.out.size
    refine ⟨by omega, h1.1, fun e => ?_⟩
    have := (hfo.out.lt b e).1
    omega
  go_wp2_with fail
  refine (HR.out _ _ V3.out).mono ?_
  rintro e w4 ⟨ga, gn, gc, rfl, hgn, hgo, b4⟩
  have F4 : Hid (FilW (w4.alloc (.cells #[.int .i64 k, .slice ga gn gc] 25)) w4.heap.size 25 k ga gn gc f) := ⟨blk_new _ _, (Octs.own hgo.out HOF.out).up (up_alloc _ _)⟩
  have E4 : Hid (FilW (w4.alloc (.cells #[.int .i64 k, .slice ga gn gc] 25)) w3.heap.size 27 k fa fn fc f) := (F3.out.up b4.out).up (up_alloc _ _)
  have O4 : Hid (OwnB (w4.alloc (.cells #[.int .i64 k, .slice ga gn gc] 25)) w1.heap.size (.slice oa on oc) l) := own_up (own_up O3.out b4.out) (up_alloc _ _)
  have B4 : Hid (Below w.heap.size w (w4.alloc (.cells #[.int .i64 k, .slice ga gn gc] 25))) := up_al (up_trans B3.out b4.out) _
  have X4 : Hid (∀ b, (Value.slice oa on oc).ownBlock = some b → b < w3.heap.size ∧ b < w4.heap.size ∧ w.heap.size ≤ b ∧ (Value.slice fa fn fc).ownBlock ≠ some b ∧ (Value.slice ga gn gc).ownBlock ≠ some b) := by
    intro b hb
    obtain ⟨h1, h2, h3⟩ := X3.out b hb
    have h4 := b4.out.size
    have h5 := b1.out.size
    rw [World.size_alloc] at h4
    refine ⟨h1, by omega, by omega, h3, fun e => ?_⟩
    have := (hgo.out.lt b e).1
    rw [World.size_alloc] at this
    omega
  clear F3 B3 V3 O3 X3 hgo hfo hown HO2 HCP HD HR HA
  go_wp2_with fail
  generalize w4.alloc (.cells #[.int .i64 k, .slice ga gn gc] 25) = W4 at *
  refine (spoil_any l _ W4 _ O4.out HOV.out (by have := HLN.out; omega)).mono ?_
  rintro e w5 ⟨⟨u, rfl⟩, gr⟩
  have F5 : Hid (FilW w5 w4.heap.size 25 k ga gn gc f) := F4.out.far gr (fun e => by have := (X4.out _ e.symm).2.1; omega) (fun b hb _ e => (X4.out b e.symm).2.2.2.2 hb)
  have E5 : Hid (FilW w5 w3.heap.size 27 k fa fn fc f) := E4.out.far gr (fun e => by have := (X4.out _ e.symm).1; omega) (fun b hb _ e => (X4.out b e.symm).2.2.2.1 hb)
  have B5 : Hid (Below w.heap.size w w5) := B4.out.grown gr B4.out.size (fun j hj => (X4.out j hj).2.2.1)
  clear F4 E4 B4 O4 X4 gr
  have q0 := blk_cell E5.out.blk 0 _ rfl
  have q1 := blk_cell E5.out.blk 1 _ rfl
  have q2 := blk_cell F5.out.blk 0 _ rfl
  have q3 := blk_cell F5.out.blk 1 _ rfl
  go_wp2_with fail
  refine (HN.out _ _).mono ?_
  rintro e w6 ⟨rfl, rfl⟩
  go_wp2_with fail
  refine (HSM.out _ _ _ _ _ _ _ E5.out.oct F5.out.oct).mono ?_
  rintro e w6 ⟨rfl, b6⟩
  have F6 : Hid (FilW w6 w4.heap.size 25 k ga gn gc f) := F5.out.up b6.out
  have E6 : Hid (FilW w6 w3.heap.size 27 k fa fn fc f) := E5.out.up b6.out
  have B6 : Hid (Below w.heap.size w w6) := up_trans B5.out b6.out
  clear q0 q1 q2 q3 F5 E5 B5 b6
  have q0 := blk_cell E6.out.blk 0 _ rfl
  have q1 := blk_cell E6.out.blk 1 _ rfl
  go_wp2_with fail
  refine (HEN.out _ _ _ _ hfn.out E6.out.oct).mono ?_
  rintro e w7 ⟨xa, xn, xc, rfl, hxo, b7⟩
  have F7 : Hid (FilW w7 w4.heap.size 25 k ga gn gc f) := F6.out.up b7.out
  have E7 : Hid (FilW w7 w3.heap.size 27 k fa fn fc f) := E6.out.up b7.out
  have B7 : Hid (Below w.heap.size w w7) := up_trans B6.out b7.out
  have X7 : Hid (∀ b, (Value.slice xa xn xc).ownBlock = some b → w6.heap.size ≤ b) := fun b hb => (hxo.out.lt b hb).1
  clear q0 q1
  go_wp2_with fail
  refine (spoil_any _ _ w7 _ hxo.out HOE.out.1 HOE.out.2).mono ?_
  rintro e w8 ⟨⟨u, rfl⟩, gr⟩
  have F8 : Hid (FilW w8 w4.heap.size 25 k ga gn gc f) := F7.out.far gr (fun e => by have := X7.out _ e.symm; have := blk_lt F6.out.blk; omega) (fun b hb hne e => by have := X7.out b e.symm; have := F6.out.oct.lt b hb hne; omega)
  have E8 : Hid (FilW w8 w3.heap.size 27 k fa fn fc f) := E7.out.far gr (fun e => by have := X7.out _ e.symm; have := blk_lt E6.out.blk; omega) (fun b hb hne e => by have := X7.out b e.symm; have := E6.out.oct.lt b hb hne; omega)
  have B8 : Hid (Below w.heap.size w w8) := B7.out.grown gr B7.out.size (fun j hj => by have := X7.out j hj; have := B6.out.size; omega)
  clear F7 E7 B7 gr F6 E6 B6 hxo
  have q0 := blk_cell E8.out.blk 0 _ rfl
  have q1 := blk_cell E8.out.blk 1 _ rfl
  have q2 := blk_cell F8.out.blk 0 _ rfl
  have q3 := blk_cell F8.out.blk 1 _ rfl
  go_wp2_with fail
  refine (HSM.out _ _ _ _ _ _ _ E8.out.oct F8.out.oct).mono ?_
  rintro e w9 ⟨rfl, b9⟩
  clear q0 q1 q2 q3
  go_wp2_with fail
  refine (HN.out _ _).mono ?_
  rintro e w10 ⟨rfl, rfl⟩
  go_wp2
  go_ret
  exact ⟨rfl, up_trans B8.out b9.out⟩
end Go.Proofs.Ytbhlphhgibikeaa
