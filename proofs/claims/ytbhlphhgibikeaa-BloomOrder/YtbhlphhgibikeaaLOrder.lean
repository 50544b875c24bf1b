/- The walk of BloomOrder. -/
import Derived.Test.YtbhlphhgibikeaaLKnows
namespace Go.Proofs.Ytbhlphhgibikeaa
open Go.RowKit
set_option linter.unusedVariables false
set_option linter.unusedSimpArgs false

theorem key_rev {l : List (List Int)} (h : KeyL l) : KeyL l.reverse := fun s hs => h s (List.mem_reverse.1 hs)
theorem rev_at (l : List (List Int)) (k : Nat) (hk : k < l.length) : l.reverse.getD k [] = l.getD (l.length - 1 - k) [] := by
  simp [List.getD, List.getElem?_reverse hk]

set_option maxHeartbeats 2000000 in
theorem order_walk (keys : List (List Int)) (hk : KeyL keys) (each : Int) (v : Value) (w : World) (hv : TextsW w v keys) (hkl : keys.length ≤ 8796093022208) :
    Calls Try.prog 6 #[v, .int .i64 each] w fun e w' => e = .returned (.bool true) ∧ Below w.heap.size w w' := by
  obtain ⟨va, vc, rfl, hvc, hvm⟩ := hv.len
  obtain ⟨t, eu, ht, t1, t2, hu1, hu2, u1, u2⟩ := each_in each
  have HA : Hid (∀ w : World, Calls Try.prog 20 #[] w fun e w' => e = .returned (.bool true) ∧ Hid (Below w.heap.size w w')) := fun w => alive_any w
  have HN : Hid (∀ (x : Int) (w : World), Calls Try.prog 18 #[.int .i64 x] w fun e w' => e = .returned (.int .i64 x) ∧ w' = w) := fun x w => num_any x w
  obtain ⟨m, hm⟩ : ∃ m : Nat, m = min keys.length 100 := ⟨_, rfl⟩
  have hmm : (if (100 : Int) < (keys.length : Int) then (100 : Int) else (keys.length : Int)) = (m : Int) := by rw [hm]; split <;> omega
  have hm1 : m ≤ keys.length := by omega
  have hm2 : m ≤ 100 := by omega
  have hm3 : (m : Int) ≤ (vc : Int) := by omega
  have hm4 : (0 : Int) ≤ (m : Int) := by omega
  have hm5 : m ≤ vc := by omega
  have hvm' : vc ≤ 9223372036854775807 := by unfold maxLen at hvm; omega
  clear hm
  have hfirst : TextsW w (.slice va m vc) (keys.take m) := by
    have h := Rws.first hv m (by rw [List.length_map]; exact hm1)
    unfold TextsW
    rw [List.map_take]
    exact h
  have hkt : KeyL (keys.take m) := fun s hs => hk s (List.mem_of_mem_take hs)
  have hlt : (keys.take m).length = m := by rw [List.length_take]; omega
  have he0 : errM (1 + eu) (keys.take m).length = 0 := by
    rw [hlt]
    unfold errM
    rw [if_neg (by omega), if_neg (by omega)]
  have he1 : errM (1 + eu) (keys.take m).reverse.length = 0 := by rw [List.length_reverse]; exact he0
  obtain ⟨T, hT⟩ : ∃ T, T = keys.take m := ⟨_, rfl⟩
  rw [← hT] at hfirst hkt hlt he0 he1
  have HMK : Hid (∀ w1 : World, Below w.heap.size w w1 → Calls Try.prog 11 #[.slice va m vc, .int .i64 (1 + eu)] w1 fun e w' => ∃ a n c, e = .returned (.tuple #[.agg #[.int .i64 (makeR T (1 + eu)).1, .slice a n c], .int .i64 0]) ∧ Hid (OwnB w' w1.heap.size (.slice a n c) (makeR T (1 + eu)).2) ∧ Hid (Below w1.heap.size w1 w')) := by
    intro w1 hb
    have h := make_any T hkt (1 + eu) _ w1 (hfirst.up hb)
    rw [he0] at h
    refine h.mono ?_
    rintro e w' ⟨a, n, c, rfl, _, ho, hb⟩
    exact ⟨a, n, c, rfl, ho, hb⟩
  have HMR : Hid (∀ w1 : World, Below w.heap.size w w1 → Calls Try.prog 12 #[.slice va m vc, .int .i64 (1 + eu)] w1 fun e w' => ∃ a n c, e = .returned (.tuple #[.agg #[.int .i64 (makeR T (1 + eu)).1, .slice a n c], .int .i64 0]) ∧ Hid (OwnB w' w1.heap.size (.slice a n c) (makeR T (1 + eu)).2) ∧ Hid (Below w1.heap.size w1 w')) := by
    intro w1 hb
    have h := refMake_any T hkt (1 + eu) _ w1 (hfirst.up hb)
    rw [he0] at h
    refine h.mono ?_
    rintro e w' ⟨a, n, c, rfl, _, ho, hb⟩
    exact ⟨a, n, c, rfl, ho, hb⟩
  have HMB : Hid (∀ (v : Value) (w1 : World), TextsW w1 v T.reverse → Calls Try.prog 11 #[v, .int .i64 (1 + eu)] w1 fun e w' => ∃ a n c, e = .returned (.tuple #[.agg #[.int .i64 (makeR T (1 + eu)).1, .slice a n c], .int .i64 0]) ∧ Hid (OwnB w' w1.heap.size (.slice a n c) (makeR T (1 + eu)).2) ∧ Hid (Below w1.heap.size w1 w')) := by
    intro v w1 hb
    have h := make_any T.reverse (key_rev hkt) (1 + eu) _ w1 hb
    rw [he1, make_rev] at h
    refine h.mono ?_
    rintro e w' ⟨a, n, c, rfl, _, ho, hb⟩
    exact ⟨a, n, c, rfl, ho, hb⟩
  have HOF : Hid (OctL (makeR T (1 + eu)).2) := makeR_oct T (1 + eu)
  have HKEY : Hid (∀ (k : Nat) (W : World), k < m → Below w.heap.size w W → ∃ b off, va = some ⟨b, off, none⟩ ∧ W.cell? ⟨b, off + k, none⟩ = some (.string (strOfNums (T.getD k [])))) := by
    intro k W hkm hW
    obtain ⟨b, off, cap, e, hc⟩ := (hfirst.up hW).at k (by rw [hlt]; exact hkm)
    simp at e
    exact ⟨b, off, e.1, hc⟩
  have HRV : Hid (∀ k, k < m → T.reverse.getD k [] = T.getD (m - 1 - k) []) := by
    intro k hk
    have := rev_at T k (by rw [hlt]; exact hk)
    rw [hlt] at this
    exact this
  have HRL : Hid (T.reverse.length = m) := by unfold Hid; rw [List.length_reverse]; exact hlt
  generalize (makeR T (1 + eu)).1 = K at *
  generalize (makeR T (1 + eu)).2 = f at *
  have HSM : Hid (∀ (a1 a2 : Option Addr) (n1 n2 c1 c2 : Nat) (W : World), Octs W (.slice a1 n1 c1) f → Octs W (.slice a2 n2 c2) f → Calls Try.prog 17 #[.agg #[.int .i64 K, .slice a1 n1 c1], .agg #[.int .i64 K, .slice a2 n2 c2]] W fun e w' => e = .returned (.bool true) ∧ Hid (Below W.heap.size W w')) := by
    intro a1 a2 n1 n2 c1 c2 W h1 h2
    refine (same2_any K K f f _ _ W h1 h2).mono ?_
    rintro e w' ⟨rfl, hb⟩
    exact ⟨by simp, hb⟩
  clear hv hk hfirst hkt hlt he0 he1 hT
  generalize T.reverse = R at *
  go_enter Try.func6, Try.ntmps6
  go_wp2_with fail
  refine (HA.out _).mono ?_
  rintro e w1 ⟨rfl, b1⟩
  go_wp2_with fail
  go_loopw [5, 6] (fun v5 i wr => ∃ (k : Nat) (ba : Option Addr) (bn bc : Nat), k ≤ m ∧ i = .int .i64 k ∧ v5 = .slice ba bn bc ∧ Hid (OwnR wr w1.heap.size 9 1 (.slice ba bn bc) ((R.take k).map srow)) ∧ Hid (Below w1.heap.size w1 wr)) (fun _ i _ => m - (intOf i).toNat)
  case atStart => exact ⟨0, none, 0, 0, Nat.zero_le _, rfl, rfl, OwnR.nil _ _ _ _, Below.refl _ _⟩
  case round =>
    obtain ⟨k, ba, bn, bc, hk, rfl, rfl, HO, HB⟩ := hrel
    by_cases hlt : k < m
    · have hlt' : (k : Int) < (m : Int) := by omega
      obtain ⟨j, hj⟩ : ∃ j, j = m - 1 - k := ⟨_, rfl⟩
      have hj' : (m : Int) - 1 - (k : Int) = (j : Int) := by omega
      have hjm : j < m := by omega
      have hjm' : (j : Int) < (m : Int) := by omega
      obtain ⟨b, off, rfl, hcell⟩ := HKEY.out j wr hjm (up_trans b1.out HB.out)
      have HR1 : Hid (R.take (k + 1) = R.take k ++ [T.getD j []]) := by
        unfold Hid
        rw [take_snoc R k [] (by rw [HRL.out]; exact hlt), HRV.out k hlt, ← hj]
      clear hj
      generalize T.getD j [] = key at *
      have hlen : ((R.take k).map srow).length = k := by rw [List.length_map, List.length_take, HRL.out]; omega
      have HS : Hid (w1.heap.size ≤ wr.heap.size) := HB.out.size
      have HBD : Hid (((((R.take k).map srow).length + 1) + (((R.take k).map srow).length + 1) / 4 + 192) * 16 ≤ 281474976710656 ∧ ((R.take k).map srow).length + 1 ≤ maxLen) := by
        unfold Hid
        rw [hlen]
        unfold maxLen
        omega
      clear hlen
      have HC1 : Hid ((R.take (k + 1)).map srow = (R.take k).map srow ++ [srow key]) := by
        unfold Hid
        rw [HR1.out, List.map_append]
        rfl
      generalize (R.take k).map srow = C at *
      obtain ⟨sk, hsk⟩ : ∃ sk, sk = srow key := ⟨_, rfl⟩
      have HSK : Hid (sk = srow key) := hsk
      rw [← hsk] at HC1
      clear hsk
      go_wp2_with (at_builtin; refine wpList_append_row wr rfl _ _ 22 9 _ 1 16 rfl Try.underlying22 Try.info9 rfl (by decide) w1.heap.size (.slice ba bn bc) C rfl HO.out sk _ _ rfl ?o2 ?o3 rfl ?o1 HBD.out.1 HBD.out.2 HS.out ?_)
      case o1 => rw [HSK.out]; intro u hu; simp [srow] at hu; subst hu; rfl
      case o2 => rw [HSK.out]; rfl
      case o3 => rw [HSK.out]; rfl
      intro v' w' hown hbw
      have HO' : Hid (OwnR w' w1.heap.size 9 1 v' ((R.take (k + 1)).map srow)) := by
        unfold Hid
        rw [HC1.out]
        exact hown
      obtain ⟨ba', bc', hsh, _, _⟩ := (Rws.own hown).len
      obtain ⟨nb, hnb⟩ : ∃ nb, nb = (C ++ [sk]).length := ⟨_, rfl⟩
      rw [← hnb] at hsh
      subst hsh
      have HB' : Hid (Below w1.heap.size w1 w') := HB.out.trans hbw
      clear hown hbw HO HB HR1 hnb HBD HC1
      go_wp2
      exact ⟨⟨k + 1, ba', nb, bc', by omega, by go_num, rfl, HO', HB'⟩, by simp [intOf]; omega⟩
    · have hlt' : ¬ (k : Int) < (m : Int) := by omega
      obtain rfl : k = m := by omega
      have HT : Hid (TextsW wr (.slice ba bn bc) R) := by
        have h := Rws.own HO.out
        rw [List.take_of_length_le (by rw [HRL.out]; exact Nat.le_refl _)] at h
        exact h
      have B1 : Hid (Below w.heap.size w wr) := up_trans b1.out HB.out
      clear HO HB b1
      go_wp2_with fail
      refine (HMK.out _ B1.out).mono ?_
      rintro e w2 ⟨fa, fn, fc, rfl, hfo, b2⟩
      have F2 : Hid (FilW (w2.alloc (.cells #[.int .i64 K, .slice fa fn fc] 27)) w2.heap.size 27 K fa fn fc f) := ⟨blk_new _ _, (Octs.own hfo.out HOF.out).up (up_alloc _ _)⟩
      have B2 : Hid (Below w.heap.size w (w2.alloc (.cells #[.int .i64 K, .slice fa fn fc] 27))) := up_al (up_trans B1.out b2.out) _
      have T2 : Hid (TextsW (w2.alloc (.cells #[.int .i64 K, .slice fa fn fc] 27)) (.slice ba bn bc) R) := (HT.out.up b2.out).up (up_alloc _ _)
      go_wp2_with fail
      refine (HMB.out _ _ T2.out).mono ?_
      rintro e w3 ⟨ga, gn, gc, rfl, hgo, b3⟩
      have F3 : Hid (FilW (w3.alloc (.cells #[.int .i64 K, .slice ga gn gc] 27)) w2.heap.size 27 K fa fn fc f) := (F2.out.up b3.out).up (up_alloc _ _)
      have G3 : Hid (FilW (w3.alloc (.cells #[.int .i64 K, .slice ga gn gc] 27)) w3.heap.size 27 K ga gn gc f) := ⟨blk_new _ _, (Octs.own hgo.out HOF.out).up (up_alloc _ _)⟩
      have B3 : Hid (Below w.heap.size w (w3.alloc (.cells #[.int .i64 K, .slice ga gn gc] 27))) := up_al (up_trans B2.out b3.out) _
      clear F2 B2 T2 HT B1 hfo b2 HMK HMB
      go_wp2_with fail
      refine (HMR.out _ B3.out).mono ?_
      rintro e w4 ⟨ra, rn, rc, rfl, hro, b4⟩
      have F4 : Hid (FilW (w4.alloc (.cells #[.int .i64 K, .slice ra rn rc] 25)) w2.heap.size 27 K fa fn fc f) := (F3.out.up b4.out).up (up_alloc _ _)
      have G4 : Hid (FilW (w4.alloc (.cells #[.int .i64 K, .slice ra rn rc] 25)) w3.heap.size 27 K ga gn gc f) := (G3.out.up b4.out).up (up_alloc _ _)
      have R4 : Hid (FilW (w4.alloc (.cells #[.int .i64 K, .slice ra rn rc] 25)) w4.heap.size 25 K ra rn rc f) := ⟨blk_new _ _, (Octs.own hro.out HOF.out).up (up_alloc _ _)⟩
      have B4 : Hid (Below w.heap.size w (w4.alloc (.cells #[.int .i64 K, .slice ra rn rc] 25))) := up_al (up_trans B3.out b4.out) _
      clear F3 G3 B3 hgo b3 hro b4 HMR
      go_wp2_with fail
      refine (HN.out _ _).mono ?_
      rintro e w5 ⟨rfl, rfl⟩
      go_wp2_with fail
      refine (HN.out _ _).mono ?_
      rintro e w5 ⟨rfl, rfl⟩
      generalize w4.alloc (.cells #[.int .i64 K, .slice ra rn rc] 25) = W4 at *
      have q0 := blk_cell F4.out.blk 0 _ rfl
      have q1 := blk_cell F4.out.blk 1 _ rfl
      have q2 := blk_cell R4.out.blk 0 _ rfl
      have q3 := blk_cell R4.out.blk 1 _ rfl
      go_wp2_with fail
      refine (HSM.out _ _ _ _ _ _ _ F4.out.oct R4.out.oct).mono ?_
      rintro e w6 ⟨rfl, b6⟩
      have G6 := G4.out.up b6.out
      have R6 := R4.out.up b6.out
      have B6 : Hid (Below w.heap.size w w6) := up_trans B4.out b6.out
      clear q0 q1 q2 q3 F4 G4 R4 B4 b6
      have q0 := blk_cell G6.blk 0 _ rfl
      have q1 := blk_cell G6.blk 1 _ rfl
      have q2 := blk_cell R6.blk 0 _ rfl
      have q3 := blk_cell R6.blk 1 _ rfl
      have HG6 : Hid (Octs w6 (.slice ga gn gc) f ∧ Octs w6 (.slice ra rn rc) f) := ⟨G6.oct, R6.oct⟩
      clear G6 R6
      go_wp2_with fail
      refine (HSM.out _ _ _ _ _ _ _ HG6.out.1 HG6.out.2).mono ?_
      rintro e w7 ⟨rfl, b7⟩
      clear q0 q1 q2 q3
      go_wp2
      go_ret
      exact ⟨rfl, up_trans B6.out b7.out⟩
end Go.Proofs.Ytbhlphhgibikeaa
