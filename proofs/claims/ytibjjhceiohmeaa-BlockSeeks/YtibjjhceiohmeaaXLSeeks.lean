/- BlockSeeks walked upon what is wanted of the program. -/
import Derived.Test.YtibjjhceiohmeaaXLTells
import Derived.Deep.Cut
namespace Go.Proofs.Ytibjjhceiohmeaa
open Go.RowKit SumPlain
set_option linter.unusedVariables false
set_option linter.unusedSimpArgs false

theorem twin_eq {l : List En} (h : chkB l = 0) {x y : En} (hx : x ∈ l) (hy : y ∈ l) (hk : y.key.toList = x.key.toList) (hs : y.seq = x.seq) : y = x := by
  have hp := List.pairwise_iff_getElem.1 (chk_pairs h)
  obtain ⟨i, hi, rfl⟩ := List.mem_iff_getElem.1 hx
  obtain ⟨j, hj, rfl⟩ := List.mem_iff_getElem.1 hy
  have no : ∀ a b : En, a.key.toList = b.key.toList → a.seq = b.seq → beforeE a b = false := by
    intro a b h1 h2
    unfold beforeE
    rw [h1, bl_self, h2]
    simp
  rcases Nat.lt_trichotomy i j with q | q | q
  · have := hp i j hi hj q
    rw [no _ _ hk.symm hs.symm] at this
    cases this
  · subst q; rfl
  · have := hp j i hj hi q
    rw [no _ _ hk hs] at this
    cases this
theorem seek_enc {l : List En} (h : chkB l = 0) (key : ByteArray) (seq : Int) : seekB (encB l).1 key seq = ((firstV l key seq).1, (firstV l key seq).2, 0) := by
  unfold seekB
  rw [dec_encB h]
  simp
theorem key_some {l : List En} (h : chkB l = 0) {y : En} (hy : y ∈ l) : (y.key.toList == (default : En).key.toList) = false := by
  have hm := mayE_le ((chkB_may h).2.2 y hy)
  have e : (default : En).key.toList = [] := by
    show (strOfNums []).toList = []
    rw [str_list]; rfl
  rw [e]
  rw [nums_length] at hm
  cases hq : y.key.toList with
  | nil =>
    have h2 : (nums y.key) = [] := by
      have h3 : y.key = strOfNums (nums y.key) := (str_nums _).symm
      rw [h3, str_list] at hq
      exact List.map_eq_nil_iff.1 hq
    have h5 : y.key.size = 0 := by rw [← nums_length, h2]; rfl
    omega
  | cons a r => rfl

set_option maxHeartbeats 8000000 in
theorem seeks_walk (P : Pg) (l : List En) (key : ByteArray) (seq : Int) (vl : Value) (w : World) (hl : EntsR w vl l) :
    Calls Try.prog 5 #[vl, .string key, .int .i64 seq] w fun e w' => e = .returned (.bool true) ∧ Below w.heap.size w w' := by
  obtain ⟨la, lc, rfl, hlc, hlm⟩ := hl.len
  have h63 : l.length ≤ 9223372036854775807 := by unfold maxLen at hlm; omega
  have EL : Hid (EntsR w (.slice la l.length lc) l) := hl
  have HP : Hid Pg := P
  have HN : Hid (∀ (x : Int) (W : World), Calls Try.prog 18 #[.int .i64 x] W fun e w' => e = .returned (.int .i64 x) ∧ w' = W) := num_any
  clear hl P hlc hlm
  go_enter Try.func5, Try.ntmps5
  go_wp2_with fail
  refine (HP.out.alive _).mono ?_
  rintro e w1 ⟨rfl, b1⟩
  go_wp2_with fail
  refine (HP.out.enc l _ _ (EL.out.up b1.out)).mono ?_
  rintro e w2 ⟨xa, xn, xc, rfl, hxn, OX, b2⟩
  have U2 : Hid (Below w.heap.size w w2) := up_trans b1.out b2.out
  clear b1 b2
  by_cases hp : (encB l).2 = 0
  · have HC : Hid (chkB l = 0) := encB_zero.1 hp
    rw [hp]
    have HSK := HP.out.seek (encB l).1 (.slice xa xn xc) key seq w2 (Octs.own OX.out (encB_oct l)) (by have := encB_len l; omega)
    rw [seek_enc HC.out] at HSK
    simp only at HSK
    unfold enV at HSK
    obtain ⟨n, hn⟩ : ∃ n, n = l.length := ⟨_, rfl⟩
    have HLN : Hid (l.length = n) := hn.symm
    rw [← hn] at EL h63
    obtain ⟨x, is, hxi⟩ : ∃ x is, firstV l key seq = (x, is) := ⟨_, _, rfl⟩
    rw [hxi] at HSK
    simp only at HSK
    have HFV : Hid (firstV l key seq = (x, is)) := hxi
    clear hxi hp hxn OX
    rw [← HLN.out] at *
    go_wp2_with fail
    refine (HN.out _ _).mono ?_
    rintro e w3 ⟨rfl, rfl⟩
    go_wp2_with fail
    refine HSK.mono ?_
    rintro e w4 ⟨rfl, b4⟩
    clear HSK
    obtain ⟨A, hA⟩ : ∃ A, A = w4.alloc (.cells #[.string x.key, .int .i64 x.seq, .int .i64 x.kind, .string x.val] 36) := ⟨_, rfl⟩
    have HA : Hid (w4.alloc (.cells #[.string x.key, .int .i64 x.seq, .int .i64 x.kind, .string x.val] 36) = A) := hA.symm
    have UA : Hid (Below w.heap.size w A) := by rw [hA]; exact up_al (up_trans U2.out b4.out) _
    have BA : Hid (A.heap[w4.heap.size]? = some (.cells #[.string x.key, .int .i64 x.seq, .int .i64 x.kind, .string x.val] 36)) := by rw [hA]; exact blk_new _ _
    clear hA b4 U2
    go_upto_region 7 with fail
    rw [HA.out]
    clear HA
    generalize w4.heap.size = M at *
    have c0 := blk_cell BA.out 0 _ rfl
    have c1 := blk_cell BA.out 1 _ rfl
    cases is with
    | true =>
      have HF : Hid (firstF l key seq = some x) := by
        have := HFV.out
        unfold firstV at this
        unfold Hid
        cases hq : firstF l key seq with
        | none => rw [hq] at this; simp at this
        | some y => rw [hq] at this; simp at this; rw [this]
      obtain ⟨hxl, hxk, hxs, hnear⟩ := first_near HC.out HF.out
      have HXL : Hid (x ∈ l) := hxl
      have HNR : Hid (∀ y ∈ l, y.key.toList = key.toList → y.seq ≤ seq → y.seq ≤ x.seq) := hnear
      clear hxl hnear
      have k1 : (x.key.toList == key.toList) = true := by simp [hxk]
      have k2 : (x.key.toList != key.toList) = false := by simp [hxk]
      have k3 : ¬ seq < x.seq := by omega
      go_wp2_with fail
      refine (HN.out _ _).mono ?_
      rintro e A' ⟨rfl, rfl⟩
      go_wp2_with fail
      clear c0 c1 k2 k3
      go_loopw [12, 13] (fun q12 q13 wr => ∃ (k : Nat) (fd : Bool), k ≤ l.length ∧ q12 = .bool fd ∧ q13 = .int .i64 (k : Int) ∧ Hid (fd = true ↔ x ∈ l.take k) ∧ Hid (Below A'.heap.size A' wr)) (fun _ q13 _ => l.length - (intOf q13).toNat)
      case atStart => exact ⟨0, false, by omega, rfl, rfl, by unfold Hid; simp, Below.refl _ _⟩
      case round =>
        obtain ⟨k, fd, hk, rfl, rfl, HFD, UR⟩ := hrel
        by_cases hlt : k < l.length
        · have hlt' : (k : Int) < (l.length : Int) := by omega
          obtain ⟨b, off, cap, y, e, hy, y0, y1, y2, y3⟩ := (EL.out.up (up_trans UA.out UR.out)).at k hlt
          simp only [Value.slice.injEq] at e
          obtain ⟨rfl, _, rfl⟩ := e
          have hyl : y ∈ l := List.mem_of_getElem? hy
          have HTK : Hid (l.take (k + 1) = l.take k ++ [y]) := take_at l k y hy
          have BR : Hid (wr.heap[M]? = some (.cells #[.string x.key, .int .i64 x.seq, .int .i64 x.kind, .string x.val] 36)) := blk_up BA.out UR.out
          have c0 := blk_cell BR.out 0 _ rfl
          have c1 := blk_cell BR.out 1 _ rfl
          have c2 := blk_cell BR.out 2 _ rfl
          have c3 := blk_cell BR.out 3 _ rfl
          have hnear := HNR.out y hyl
          clear hy
          cases fd with
          | true =>
            by_cases hyk : y.key.toList = key.toList
            · have kk1 : (y.key.toList == key.toList) = true := by simp [hyk]
              have kk2 : (y.key.toList == x.key.toList) = true := by simp [hyk, hxk]
              by_cases hys : y.seq = x.seq
              · obtain rfl := twin_eq HC.out HXL.out hyl (hyk.trans hxk.symm) hys
                have ll : ¬ y.seq < y.seq := by omega
                clear hys kk2 hnear
                go_wp2_with fail
                go_quiet (fail)
                all_goals
                  go_wp2_with fail
                  go_quiet (fail)
                  all_goals
                    go_wp2_with fail
                    refine ⟨⟨k + 1, true, by omega, rfl, by go_num, ?_, by first | exact up_trans UR.out (up_trans (up_drewN _ _) (up_drewN _ _)) | exact up_trans UR.out (up_drewN _ _) | exact UR.out⟩, by simp [intOf]; omega⟩
                    unfold Hid
                    rw [HTK.out, List.mem_append, ← HFD.out]
                    simp
              · have ss : (y.seq == x.seq) = false := by simp [hys]
                have hne : ¬ x = y := fun e => hys (by rw [e])
                by_cases hsq : y.seq ≤ seq
                · have ll : ¬ x.seq < y.seq := by have := hnear hyk hsq; omega
                  clear hnear
                  go_wp2_with fail
                  go_quiet (fail)
                  all_goals
                    go_wp2_with fail
                    go_quiet (fail)
                    all_goals
                      go_wp2_with fail
                      refine ⟨⟨k + 1, true, by omega, rfl, by go_num, ?_, by first | exact up_trans UR.out (up_trans (up_drewN _ _) (up_drewN _ _)) | exact up_trans UR.out (up_drewN _ _) | exact UR.out⟩, by simp [intOf]; omega⟩
                      unfold Hid
                      rw [HTK.out, List.mem_append, ← HFD.out]
                      simp [hne]
                · have hsq1 : decide (y.seq ≤ seq) = false := by simp; omega
                  have hsq2 : seq < y.seq := by omega
                  clear hnear
                  go_wp2_with fail
                  go_quiet (fail)
                  all_goals
                    go_wp2_with fail
                    go_quiet (fail)
                    all_goals
                      go_wp2_with fail
                      refine ⟨⟨k + 1, true, by omega, rfl, by go_num, ?_, by first | exact up_trans UR.out (up_trans (up_drewN _ _) (up_drewN _ _)) | exact up_trans UR.out (up_drewN _ _) | exact UR.out⟩, by simp [intOf]; omega⟩
                      unfold Hid
                      rw [HTK.out, List.mem_append, ← HFD.out]
                      simp [hne]
            · have kk1 : (y.key.toList == key.toList) = false := by simp [hyk]
              have kk2 : (y.key.toList == x.key.toList) = false := by simp [hyk, hxk]
              have hne : ¬ x = y := fun e => hyk (by rw [← e]; exact hxk)
              clear hnear
              go_wp2_with fail
              go_quiet (fail)
              all_goals
                go_wp2_with fail
                go_quiet (fail)
                all_goals
                  go_wp2_with fail
                  refine ⟨⟨k + 1, true, by omega, rfl, by go_num, ?_, by first | exact up_trans UR.out (up_trans (up_drewN _ _) (up_drewN _ _)) | exact up_trans UR.out (up_drewN _ _) | exact UR.out⟩, by simp [intOf]; omega⟩
                  unfold Hid
                  rw [HTK.out, List.mem_append, ← HFD.out]
                  simp [hne]
          | false =>
            by_cases hyk : y.key.toList = key.toList
            · have kk1 : (y.key.toList == key.toList) = true := by simp [hyk]
              have kk2 : (y.key.toList == x.key.toList) = true := by simp [hyk, hxk]
              by_cases hys : y.seq = x.seq
              · obtain rfl := twin_eq HC.out HXL.out hyl (hyk.trans hxk.symm) hys
                have ll : ¬ y.seq < y.seq := by omega
                clear hys kk2 hnear
                go_wp2_with fail
                go_quiet (fail)
                all_goals
                  go_wp2_with fail
                  go_quiet (fail)
                  all_goals
                    go_wp2_with fail
                    refine ⟨⟨k + 1, true, by omega, rfl, by go_num, ?_, by first | exact up_trans UR.out (up_trans (up_drewN _ _) (up_drewN _ _)) | exact up_trans UR.out (up_drewN _ _) | exact UR.out⟩, by simp [intOf]; omega⟩
                    unfold Hid
                    rw [HTK.out, List.mem_append, ← HFD.out]
                    simp
              · have ss : (y.seq == x.seq) = false := by simp [hys]
                have hne : ¬ x = y := fun e => hys (by rw [e])
                by_cases hsq : y.seq ≤ seq
                · have ll : ¬ x.seq < y.seq := by have := hnear hyk hsq; omega
                  clear hnear
                  go_wp2_with fail
                  go_quiet (fail)
                  all_goals
                    go_wp2_with fail
                    go_quiet (fail)
                    all_goals
                      go_wp2_with fail
                      refine ⟨⟨k + 1, false, by omega, rfl, by go_num, ?_, by first | exact up_trans UR.out (up_trans (up_drewN _ _) (up_drewN _ _)) | exact up_trans UR.out (up_drewN _ _) | exact UR.out⟩, by simp [intOf]; omega⟩
                      unfold Hid
                      rw [HTK.out, List.mem_append, ← HFD.out]
                      simp [hne]
                · have hsq1 : decide (y.seq ≤ seq) = false := by simp; omega
                  have hsq2 : seq < y.seq := by omega
                  clear hnear
                  go_wp2_with fail
                  go_quiet (fail)
                  all_goals
                    go_wp2_with fail
                    go_quiet (fail)
                    all_goals
                      go_wp2_with fail
                      refine ⟨⟨k + 1, false, by omega, rfl, by go_num, ?_, by first | exact up_trans UR.out (up_trans (up_drewN _ _) (up_drewN _ _)) | exact up_trans UR.out (up_drewN _ _) | exact UR.out⟩, by simp [intOf]; omega⟩
                      unfold Hid
                      rw [HTK.out, List.mem_append, ← HFD.out]
                      simp [hne]
            · have kk1 : (y.key.toList == key.toList) = false := by simp [hyk]
              have kk2 : (y.key.toList == x.key.toList) = false := by simp [hyk, hxk]
              have hne : ¬ x = y := fun e => hyk (by rw [← e]; exact hxk)
              clear hnear
              go_wp2_with fail
              go_quiet (fail)
              all_goals
                go_wp2_with fail
                go_quiet (fail)
                all_goals
                  go_wp2_with fail
                  refine ⟨⟨k + 1, false, by omega, rfl, by go_num, ?_, by first | exact up_trans UR.out (up_trans (up_drewN _ _) (up_drewN _ _)) | exact up_trans UR.out (up_drewN _ _) | exact UR.out⟩, by simp [intOf]; omega⟩
                  unfold Hid
                  rw [HTK.out, List.mem_append, ← HFD.out]
                  simp [hne]
        · obtain rfl : k = l.length := by omega
          have hfd : fd = true := HFD.out.2 (by rw [List.take_length]; exact HXL.out)
          subst hfd
          go_wp2
          go_ret
          exact ⟨rfl, up_trans UA.out UR.out⟩
    | false =>
      have HF : Hid (firstF l key seq = none ∧ x = default) := by
        have := HFV.out
        unfold firstV at this
        unfold Hid
        cases hq : firstF l key seq with
        | none => rw [hq] at this; simp at this; exact ⟨rfl, this.symm⟩
        | some y => rw [hq] at this; simp at this
      have HNT : Hid (∀ y ∈ l, ¬ (y.key.toList = key.toList ∧ y.seq ≤ seq)) := first_not HF.out.1
      go_wp2_with fail
      refine (HN.out _ _).mono ?_
      rintro e A' ⟨rfl, rfl⟩
      go_wp2_with fail
      clear c0 c1
      go_loopw [12, 13] (fun q12 q13 wr => ∃ (k : Nat), k ≤ l.length ∧ q12 = .bool false ∧ q13 = .int .i64 (k : Int) ∧ Hid (Below A'.heap.size A' wr)) (fun _ q13 _ => l.length - (intOf q13).toNat)
      case atStart => exact ⟨0, by omega, rfl, rfl, Below.refl _ _⟩
      case round =>
        obtain ⟨k, hk, rfl, rfl, UR⟩ := hrel
        by_cases hlt : k < l.length
        · have hlt' : (k : Int) < (l.length : Int) := by omega
          obtain ⟨b, off, cap, y, e, hy, y0, y1, y2, y3⟩ := (EL.out.up (up_trans UA.out UR.out)).at k hlt
          simp only [Value.slice.injEq] at e
          obtain ⟨rfl, _, rfl⟩ := e
          have hyl : y ∈ l := List.mem_of_getElem? hy
          have BR : Hid (wr.heap[M]? = some (.cells #[.string x.key, .int .i64 x.seq, .int .i64 x.kind, .string x.val] 36)) := blk_up BA.out UR.out
          have c0 := blk_cell BR.out 0 _ rfl
          have c1 := blk_cell BR.out 1 _ rfl
          have c2 := blk_cell BR.out 2 _ rfl
          have c3 := blk_cell BR.out 3 _ rfl
          have kk2 : (y.key.toList == x.key.toList) = false := by rw [HF.out.2]; exact key_some HC.out hyl
          have hnt := HNT.out y hyl
          clear hy
          by_cases hyk : y.key.toList = key.toList
          · have kk1 : (y.key.toList == key.toList) = true := by simp [hyk]
            have hsq2 : seq < y.seq := by
              by_cases h : y.seq ≤ seq
              · exact absurd ⟨hyk, h⟩ hnt
              · omega
            have hsq1 : decide (y.seq ≤ seq) = false := by simp; omega
            have hsq : ¬ y.seq ≤ seq := by omega
            clear hnt hyk
            go_wp2_with fail
            go_quiet (fail)
            go_wp2_with fail
            go_quiet (fail)
            go_wp2_with fail
            exact ⟨⟨k + 1, by omega, rfl, by go_num, by first | exact up_trans UR.out (up_trans (up_drewN _ _) (up_drewN _ _)) | exact up_trans UR.out (up_drewN _ _) | exact UR.out⟩, by simp [intOf]; omega⟩
          · have kk1 : (y.key.toList == key.toList) = false := by simp [hyk]
            clear hnt
            go_wp2_with fail
            go_quiet (fail)
            go_wp2_with fail
            go_quiet (fail)
            go_wp2_with fail
            exact ⟨⟨k + 1, by omega, rfl, by go_num, by first | exact up_trans UR.out (up_trans (up_drewN _ _) (up_drewN _ _)) | exact up_trans UR.out (up_drewN _ _) | exact UR.out⟩, by simp [intOf]; omega⟩
        · obtain rfl : k = l.length := by omega
          go_wp2
          go_ret
          exact ⟨rfl, up_trans UA.out UR.out⟩
  · have HZ : Hid (xn = 0) := by
      have := hxn.out
      rw [encB_none hp] at this
      exact this
    obtain rfl : xn = 0 := HZ.out
    clear hxn OX HZ
    generalize (encB l).2 = q at *
    have hq1 : (q == 0) = false := by simp [hp]
    have hq2 : (q != 0) = true := by simp [hp]
    go_wp2_with fail
    refine (HN.out _ _).mono ?_
    rintro e w3 ⟨rfl, rfl⟩
    go_wp2
    go_ret
    exact ⟨rfl, U2.out⟩
end Go.Proofs.Ytibjjhceiohmeaa
