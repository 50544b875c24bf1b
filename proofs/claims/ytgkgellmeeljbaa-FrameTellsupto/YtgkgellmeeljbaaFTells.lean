/- The law FrameTells, walked: any record as octets, and any octets read and scanned, are as the page says. -/
import Derived.Test.YtgkgellmeeljbaaGPut
import Derived.Test.YtgkgellmeeljbaaGScan
namespace Go.Proofs.Ytgkgellmeeljbaa
open Go.RowKit SumPlain
set_option linter.unusedVariables false

theorem rput_bad (k : Int) (a : Option Addr) (n c : Nat) (w : World) (h : ¬ (0 ≤ k ∧ k ≤ 255 ∧ n ≤ 65536)) :
    Calls Try.prog 11 #[.agg #[.int .i64 k, .slice a n c]] w fun e w' => e = .returned (.tuple #[.slice none 0 0, .int .i64 (if k < 0 ∨ 255 < k then 22 else 5)]) ∧ Below w.heap.size w w' := by
  by_cases h1 : k < 0 ∨ 255 < k
  · rw [if_pos h1]; exact rput_kind k a n c w h1
  · rw [if_neg h1]; exact rput_long k a n c w (by omega) (by omega) (by omega)
theorem fput_bad2 (k : Int) (a : Option Addr) (n c : Nat) (w : World) (h : ¬ (0 ≤ k ∧ k ≤ 255 ∧ n ≤ 65536)) :
    Calls Try.prog 10 #[.agg #[.int .i64 k, .slice a n c]] w fun e w' => e = .returned (.tuple #[.slice none 0 0, .int .i64 (if k < 0 ∨ 255 < k then 22 else 5)]) ∧ Below w.heap.size w w' := by
  by_cases h1 : k < 0 ∨ 255 < k
  · rw [if_pos h1]; exact fput_kind k a n c w h1
  · rw [if_neg h1]; exact fput_long k a n c w (by omega) (by omega) (by omega)

/-- Both Puts answer alike. -/
theorem put_pair (k : Int) (l : List Int) (hx : ∀ x ∈ l, 0 ≤ x ∧ x ≤ 255) : ∃ (x : Int) (P : List Int),
    (∀ (w : World) (a : Option Addr) (c : Nat), Octs w (.slice a l.length c) l → Calls Try.prog 10 #[.agg #[.int .i64 k, .slice a l.length c]] w fun e w' => ∃ a' n' c', e = .returned (.tuple #[.slice a' n' c', .int .i64 x]) ∧ Hid (Octs w' (.slice a' n' c') P) ∧ Hid (Below w.heap.size w w')) ∧
    (∀ (w : World) (a : Option Addr) (c : Nat), Octs w (.slice a l.length c) l → Calls Try.prog 11 #[.agg #[.int .i64 k, .slice a l.length c]] w fun e w' => ∃ a' n' c', e = .returned (.tuple #[.slice a' n' c', .int .i64 x]) ∧ Hid (Octs w' (.slice a' n' c') P) ∧ Hid (Below w.heap.size w w')) := by
  by_cases h : 0 ≤ k ∧ k ≤ 255 ∧ l.length ≤ 65536
  · refine ⟨0, frameOf k l, ?_, ?_⟩
    · intro w a c hv
      refine (fput_good k a c l w hv h.1 h.2.1 h.2.2).mono ?_
      rintro e w' ⟨v', rfl, ho, hb⟩
      obtain ⟨a', n', c', rfl, _⟩ := own_shape ho
      exact ⟨a', n', c', rfl, Octs.own ho (frame_octet k l ⟨h.1, h.2.1⟩ h.2.2 hx), hb⟩
    · intro w a c hv
      refine (rput_good k a c l w hv h.1 h.2.1 h.2.2).mono ?_
      rintro e w' ⟨v', rfl, ho, hb⟩
      obtain ⟨a', n', c', rfl, _⟩ := own_shape ho
      exact ⟨a', n', c', rfl, Octs.own ho (frame_octet k l ⟨h.1, h.2.1⟩ h.2.2 hx), hb⟩
  · refine ⟨if k < 0 ∨ 255 < k then 22 else 5, [], ?_, ?_⟩
    · intro w a c hv
      refine (fput_bad2 k a l.length c w h).mono ?_
      rintro e w' ⟨rfl, hb⟩
      exact ⟨none, 0, 0, rfl, (NewB.nil w' 0).1, hb⟩
    · intro w a c hv
      refine (rput_bad k a l.length c w h).mono ?_
      rintro e w' ⟨rfl, hb⟩
      exact ⟨none, 0, 0, rfl, (NewB.nil w' 0).1, hb⟩

set_option maxHeartbeats 2000000 in
set_option maxRecDepth 4000 in
theorem tells_walk (k : Int) (l : List Int) (a : Option Addr) (c : Nat) (vm : Value) (m : List Int) (w : World) (hv : Octs w (.slice a l.length c) l) (hl : l.length ≤ 1048576) (hm : Octs w vm m) (hml : m.length ≤ 1048576) :
    Calls Try.prog 3 #[.agg #[.int .i64 k, .slice a l.length c], vm] w fun e w' => e = .returned (.bool true) ∧ Below w.heap.size w w' := by
  have HV : Hid (Octs w (.slice a l.length c) l) := hv
  obtain ⟨am, cm, rfl, _, _⟩ := hm.len
  have HM : Hid (Octs w (.slice am m.length cm) m) := hm
  obtain ⟨x, P, hp1, hp2⟩ := put_pair k l hv.1
  have HP : Hid (∀ (w : World) (a : Option Addr) (c : Nat), Octs w (.slice a l.length c) l → Calls Try.prog 10 #[.agg #[.int .i64 k, .slice a l.length c]] w fun e w' => ∃ a' n' c', e = .returned (.tuple #[.slice a' n' c', .int .i64 x]) ∧ Hid (Octs w' (.slice a' n' c') P) ∧ Hid (Below w.heap.size w w')) := hp1
  have HQ : Hid (∀ (w : World) (a : Option Addr) (c : Nat), Octs w (.slice a l.length c) l → Calls Try.prog 11 #[.agg #[.int .i64 k, .slice a l.length c]] w fun e w' => ∃ a' n' c', e = .returned (.tuple #[.slice a' n' c', .int .i64 x]) ∧ Hid (Octs w' (.slice a' n' c') P) ∧ Hid (Below w.heap.size w w')) := hp2
  clear hv hm hp1 hp2
  obtain ⟨gk, hgk⟩ : ∃ gk, gk = (fget m).1 := ⟨_, rfl⟩
  obtain ⟨gd, hgd⟩ : ∃ gd, gd = (fget m).2.1 := ⟨_, rfl⟩
  obtain ⟨gn, hgn⟩ : ∃ gn, gn = (fget m).2.2.1 := ⟨_, rfl⟩
  obtain ⟨ge, hge⟩ : ∃ ge, ge = (fget m).2.2.2 := ⟨_, rfl⟩
  have HG : Hid (∀ (w : World) (v : Value), Octs w v m → Calls Try.prog 12 #[v] w fun e w' => ∃ a' n' c', e = .returned (.tuple #[.agg #[.int .i64 gk, .slice a' n' c'], .int .i64 gn, .int .i64 ge]) ∧ Hid (Octs w' (.slice a' n' c') gd) ∧ Hid (Below w.heap.size w w')) := by
    intro w v h
    refine (fget_any m v w h).mono ?_
    rintro e w' ⟨vd, rfl, hn, hb⟩
    rw [← hgk, ← hgn, ← hge]
    rw [← hgd] at hn
    obtain ⟨a', c', rfl, _, _⟩ := hn.1.len
    exact ⟨a', _, c', rfl, hn.1, hb⟩
  have HR : Hid (∀ (w : World) (v : Value), Octs w v m → Calls Try.prog 13 #[v] w fun e w' => ∃ a' n' c', e = .returned (.tuple #[.agg #[.int .i64 gk, .slice a' n' c'], .int .i64 gn, .int .i64 ge]) ∧ Hid (Octs w' (.slice a' n' c') gd) ∧ Hid (Below w.heap.size w w')) := by
    intro w v h
    refine (rget_any m v w h).mono ?_
    rintro e w' ⟨vd, rfl, hn, hb⟩
    rw [← hgk, ← hgn, ← hge]
    rw [← hgd] at hn
    obtain ⟨a', c', rfl, _, _⟩ := hn.1.len
    exact ⟨a', _, c', rfl, hn.1, hb⟩
  clear hgk hgd hgn hge
  obtain ⟨sn, hsn⟩ : ∃ sn : Int, sn = ((lenOf (scanOf m) : Nat) : Int) := ⟨_, rfl⟩
  have HS : Hid (∀ (w : World) (v : Value), Octs w v m → Calls Try.prog 14 #[v] w fun e w' => ∃ a' n' c', e = .returned (.tuple #[.slice a' n' c', .int .i64 sn]) ∧ Hid (∃ xs : List Got, xs.map (·.2) = scanOf m ∧ RecsR w' (.slice a' n' c') xs) ∧ Hid (Below w.heap.size w w')) := by
    intro w v h
    refine (scan_any m v w h (by omega)).mono ?_
    rintro e w' ⟨a', n', c', xs, rfl, _, h1, h2, h3, hb⟩
    rw [← hsn]
    exact ⟨a', n', c', rfl, ⟨xs, h1, RecsR.own h2 h3⟩, hb⟩
  have HT : Hid (∀ (w : World) (v : Value), Octs w v m → Calls Try.prog 15 #[v] w fun e w' => ∃ a' n' c', e = .returned (.tuple #[.slice a' n' c', .int .i64 sn]) ∧ Hid (∃ xs : List Got, xs.map (·.2) = scanOf m ∧ RecsR w' (.slice a' n' c') xs) ∧ Hid (Below w.heap.size w w')) := by
    intro w v h
    refine (rscan_any m v w h (by omega)).mono ?_
    rintro e w' ⟨a', n', c', xs, rfl, h1, hb⟩
    rw [← hsn]
    exact ⟨a', n', c', rfl, ⟨xs, h1.out.1, RecsR.own24 h1.out.2.1 (fun x hx => (h1.out.2.2 x hx).1)⟩, hb⟩
  clear hsn
  go_enter Try.func3, Try.ntmps3
  go_wp2_with fail
  have U0 : Hid (Below w.heap.size w (w.alloc (.cells #[.int .i64 k, .slice a l.length c] 24))) := up_alloc _ _
  have D0 : Hid ((w.alloc (.cells #[.int .i64 k, .slice a l.length c] 24)).heap[w.heap.size]? = some (.cells #[.int .i64 k, .slice a l.length c] 24)) := blk_new _ _
  generalize w.alloc (.cells #[.int .i64 k, .slice a l.length c] 24) = w0 at *
  refine (of_any k l a c _ (HV.out.up U0.out) (by omega)).mono ?_
  rintro e w1 ⟨a1, n1, c1, rfl, hn, ho, b1⟩
  have hn' := hn.out
  subst hn'
  have U1 : Hid (Below w.heap.size w w1) := up_trans U0.out b1
  have D1 : Hid (w1.heap[w.heap.size]? = some (.cells #[.int .i64 k, .slice a l.length c] 24)) := blk_up D0.out b1
  have O1 : Hid (Octs w1 (.slice a1 l.length c1) l) := Octs.own ho HV.out.1
  clear b1 ho hn U0 D0
  go_wp2_with fail
  refine (copy_any m _ _ (HM.out.up U1.out) (by omega)).mono ?_
  rintro e w2 ⟨v2, rfl, o2, b2⟩
  obtain ⟨a2, n2, c2, rfl, _⟩ := own_shape o2
  have B2 : Hid (Below w1.heap.size w1 w2) := b2
  have M2 : Hid (Octs w2 (.slice a2 n2 c2) m) := Octs.own o2 HM.out.1
  clear b2 o2
  go_wp2_with fail
  have U3 : Hid (Below w.heap.size w (w2.alloc (.cells #[.int .i64 k, .slice a1 l.length c1] 25))) := up_trans (up_trans U1.out B2.out) (up_alloc _ _)
  have D3 : Hid ((w2.alloc (.cells #[.int .i64 k, .slice a1 l.length c1] 25)).heap[w.heap.size]? = some (.cells #[.int .i64 k, .slice a l.length c] 24)) := blk_up D1.out (up_trans B2.out (up_alloc _ _))
  have E3 : Hid ((w2.alloc (.cells #[.int .i64 k, .slice a1 l.length c1] 25)).heap[w2.heap.size]? = some (.cells #[.int .i64 k, .slice a1 l.length c1] 25)) := blk_new _ _
  have O3 : Hid (Octs (w2.alloc (.cells #[.int .i64 k, .slice a1 l.length c1] 25)) (.slice a1 l.length c1) l) := O1.out.up (up_trans B2.out (up_alloc _ _))
  have M3 : Hid (Octs (w2.alloc (.cells #[.int .i64 k, .slice a1 l.length c1] 25)) (.slice a2 n2 c2) m) := M2.out.up (up_alloc _ _)
  generalize w2.alloc (.cells #[.int .i64 k, .slice a1 l.length c1] 25) = w3 at *
  generalize w2.heap.size = B3 at *
  clear U1 D1 O1 B2 M2
  refine (HP.out _ _ _ O3.out).mono ?_
  rintro e w4 ⟨ap, np, cp, rfl, P4, b4⟩
  have U4 : Hid (Below w.heap.size w w4) := up_trans U3.out b4.out
  have D4 := blk_up D3.out b4.out
  have q0 := blk_cell D4 0 _ rfl
  have q1 := blk_cell D4 1 _ rfl
  have D4 : Hid (w4.heap[w.heap.size]? = some (.cells #[.int .i64 k, .slice a l.length c] 24)) := D4
  go_wp2_with fail
  refine (HQ.out _ _ _ (HV.out.up U4.out)).mono ?_
  rintro e w5 ⟨aq, nq, cq, rfl, Q5, b5⟩
  have C35 : Hid (Below w3.heap.size w3 w5) := up_trans b4.out b5.out
  clear q0 q1
  go_wp2_with fail
  refine (HG.out _ _ (M3.out.up C35.out)).mono ?_
  rintro e w6 ⟨au, nu, cu, rfl, G6, b6⟩
  have C46 : Hid (Below w4.heap.size w4 w6) := up_trans b5.out b6.out
  have C36 : Hid (Below w3.heap.size w3 w6) := up_trans C35.out b6.out
  have U6 : Hid (Below w.heap.size w w6) := up_trans U4.out C46.out
  go_wp2_with fail
  have K6 : Hid (Below w6.heap.size w6 (w6.alloc (.cells #[.int .i64 gk, .slice au nu cu] 25))) := up_alloc _ _
  have E6 : Hid ((w6.alloc (.cells #[.int .i64 gk, .slice au nu cu] 25)).heap[w6.heap.size]? = some (.cells #[.int .i64 gk, .slice au nu cu] 25)) := blk_new _ _
  generalize w6.alloc (.cells #[.int .i64 gk, .slice au nu cu] 25) = w6' at *
  refine (HR.out _ _ (HM.out.up (up_trans U6.out K6.out))).mono ?_
  rintro e w7 ⟨av, nv, cv, rfl, V7, b7⟩
  have C67 : Hid (Below w6.heap.size w6 w7) := up_trans K6.out b7.out
  have E7 : Hid (w7.heap[w6.heap.size]? = some (.cells #[.int .i64 gk, .slice au nu cu] 25)) := blk_up E6.out b7.out
  clear E6 K6 b7
  go_wp2_with fail
  have K7 : Hid (Below w7.heap.size w7 (w7.alloc (.cells #[.int .i64 gk, .slice av nv cv] 24))) := up_alloc _ _
  have F7 : Hid ((w7.alloc (.cells #[.int .i64 gk, .slice av nv cv] 24)).heap[w7.heap.size]? = some (.cells #[.int .i64 gk, .slice av nv cv] 24)) := blk_new _ _
  generalize w7.alloc (.cells #[.int .i64 gk, .slice av nv cv] 24) = w7' at *
  have C37 : Hid (Below w3.heap.size w3 w7') := up_trans C36.out (up_trans C67.out K7.out)
  refine (HS.out _ _ (M3.out.up C37.out)).mono ?_
  rintro e w8 ⟨az, nz, cz, rfl, S8, b8⟩
  have C78 : Hid (Below w7.heap.size w7 w8) := up_trans K7.out b8.out
  have F8 : Hid (w8.heap[w7.heap.size]? = some (.cells #[.int .i64 gk, .slice av nv cv] 24)) := blk_up F7.out b8.out
  have U8 : Hid (Below w.heap.size w w8) := up_trans U6.out (up_trans C67.out C78.out)
  clear F7 K7
  go_wp2_with fail
  refine (HT.out _ _ (HM.out.up U8.out)).mono ?_
  rintro e w9 ⟨at', nt, ct, rfl, T9, b9⟩
  have C79 : Hid (Below w7.heap.size w7 w9) := up_trans C78.out b9.out
  have C69 : Hid (Below w6.heap.size w6 w9) := up_trans C67.out C79.out
  have C59 : Hid (Below w5.heap.size w5 w9) := up_trans b6.out C69.out
  have C49 : Hid (Below w4.heap.size w4 w9) := up_trans b5.out C59.out
  have C39 : Hid (Below w3.heap.size w3 w9) := up_trans b4.out C49.out
  have U9 : Hid (Below w.heap.size w w9) := up_trans U8.out b9.out
  have HP9 : Hid (Calls Try.prog 16 #[.slice ap np cp, .slice aq nq cq] w9 fun e w' => e = .returned (.bool true) ∧ w' = w9) := by
    refine (same_any P P _ _ _ (P4.out.up C49.out) (Q5.out.up C59.out)).mono ?_
    rintro e w' ⟨rfl, rfl⟩
    exact ⟨by simp, rfl⟩
  go_wp2_with fail
  refine HP9.out.mono ?_
  rintro e w10 ⟨rfl, rfl⟩
  have d0 := blk_up E7.out C79.out
  have d1 := blk_up F8.out b9.out
  have p0 := blk_cell d0 0 _ rfl
  have p1 := blk_cell d0 1 _ rfl
  have p2 := blk_cell d1 0 _ rfl
  have p3 := blk_cell d1 1 _ rfl
  clear d0 d1
  go_wp2_with fail
  refine (num_any _ _).mono ?_
  rintro e w11 ⟨rfl, rfl⟩
  go_wp2_with fail
  refine (same2_any gk gk gd gd _ _ _ (G6.out.up C69.out) (V7.out.up C79.out)).mono ?_
  rintro e w12 ⟨rfl, b12⟩
  have hdd : (decide (gk = gk) && decide (gd = gd)) = true := by simp
  rw [hdd]
  have C912 : Hid (Below w11.heap.size w11 w12) := b12
  clear p0 p1 p2 p3 b12 hdd
  go_wp2_with fail
  refine (num_any _ _).mono ?_
  rintro e w13 ⟨rfl, rfl⟩
  have HSA : Hid (Calls Try.prog 19 #[.slice az nz cz, .slice at' nt ct] w13 fun e w' => e = .returned (.bool true) ∧ Below w13.heap.size w13 w') := by
    obtain ⟨xs, hx1, hx2⟩ := S8.out
    obtain ⟨ys, hy1, hy2⟩ := T9.out
    refine sameAll_self xs ys _ _ _ (hx2.up (up_trans b9.out C912.out)) (hy2.up C912.out) ?_
    have hh : xs.map (·.2) = ys.map (·.2) := hx1.trans hy1.symm
    have := congrArg (List.map (fun z : Int × List Int × Nat => (z.1, z.2.1))) hh
    rw [List.map_map, List.map_map] at this
    exact this
  go_wp2_with fail
  refine HSA.out.mono ?_
  rintro e w14 ⟨rfl, b14⟩
  have C914 : Hid (Below w11.heap.size w11 w14) := up_trans C912.out b14
  have d0 := blk_up E3.out (up_trans C39.out C914.out)
  have d1 := blk_up D4.out (up_trans C49.out C914.out)
  have p0 := blk_cell d0 0 _ rfl
  have p1 := blk_cell d0 1 _ rfl
  have p2 := blk_cell d1 0 _ rfl
  have p3 := blk_cell d1 1 _ rfl
  clear d0 d1 b14
  go_wp2_with fail
  refine (same2_any k k l l _ _ _ (O3.out.up (up_trans C39.out C914.out)) (HV.out.up (up_trans U9.out C914.out))).mono ?_
  rintro e w15 ⟨rfl, b15⟩
  have hdd : (decide (k = k) && decide (l = l)) = true := by simp
  rw [hdd]
  have C915 : Hid (Below w11.heap.size w11 w15) := up_trans C914.out b15
  clear p0 p1 p2 p3 b15 hdd
  have HM9 : Hid (Calls Try.prog 16 #[.slice a2 n2 c2, .slice am m.length cm] w15 fun e w' => e = .returned (.bool true) ∧ w' = w15) := by
    refine (same_any m m _ _ _ (M3.out.up (up_trans C39.out C915.out)) (HM.out.up (up_trans U9.out C915.out))).mono ?_
    rintro e w' ⟨rfl, rfl⟩
    exact ⟨by simp, rfl⟩
  go_wp2_with fail
  refine HM9.out.mono ?_
  rintro e w16 ⟨rfl, rfl⟩
  go_wp2_with fail
  refine (alive_any _).mono ?_
  rintro e w17 ⟨rfl, b17⟩
  have U17 : Hid (Below w.heap.size w w17) := up_trans U9.out (up_trans C915.out b17)
  clear b17
  go_wp2
  go_ret
  exact ⟨rfl, U17.out⟩
end Go.Proofs.Ytgkgellmeeljbaa
