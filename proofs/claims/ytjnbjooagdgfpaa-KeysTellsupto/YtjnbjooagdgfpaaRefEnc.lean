/- The document's Encode returns, for any parts in a slice (each text of at most 2^40 octets), the octets and the error that the plain function 'encodeOf' says. -/
import Derived.Test.YtjnbjooagdgfpaaEnc
import Derived.Test.YtjnbjooagdgfpaaRefCmp
import Derived.Test.YtjnbjooagdgfpaaRefDec
namespace Go.Proofs.Ytjnbjooagdgfpaa
open Go.RowKit
set_option linter.unusedVariables false

set_option maxHeartbeats 4000000 in
set_option maxRecDepth 4000 in
theorem refEncode_any (l : List (Bool × Int × List Int)) (v : Value) (w : World) (hv : Parts w v l) (hlen : ∀ p ∈ l, p.2.2.length ≤ 1099511627776) :
    Calls Try.prog 11 #[v] w fun e w' => e = .returned (.tuple #[.string (strOfNums (encodeOf l).1), .int .i64 (encodeOf l).2]) ∧ Below w.heap.size w w' := by
  have HV : Hid (Parts w v l) := hv
  obtain ⟨_, a, cap, rfl, hcap, hcm, h3⟩ := hv
  clear h3
  unfold maxLen at hcm
  by_cases hc : checkOf l = 0
  · obtain ⟨h8, _⟩ := check_eight hc
    have HE : Hid (encodeOf l = (encL l, 0)) := by unfold Hid encodeOf; rw [if_pos hc]
    have HC : Hid (checkOf l = 0) := hc
    clear hc
    go_enter Try.func11, Try.ntmps11
    go_wp2_with fail
    refine (refCheck_any l _ _ HV.out).mono ?_
    rintro e w1 ⟨rfl, rfl⟩
    rw [HC.out]
    go_wp2
    go_loopw [5, 6] (fun vb i wr => ∃ k : Nat, k ≤ l.length ∧ i = .int .i64 k ∧ Hid (OwnB wr w1.heap.size vb (encL (l.take k))) ∧ Hid (Below w1.heap.size w1 wr)) (fun _ i _ => l.length - (intOf i).toNat)
    case atStart => exact ⟨0, Nat.zero_le _, rfl, OwnB.nil _ _, Below.refl _ _⟩
    case round =>
      obtain ⟨k, hk, rfl, HW, HB⟩ := hrel
      by_cases hlt : k < l.length
      · obtain ⟨b, off, cap', e, _, _, c0, c1, c2⟩ := (HV.out.up HB.out).at k hlt
        simp at e
        obtain ⟨rfl, rfl⟩ := e
        have hlt' : (k : Int) < (l.length : Int) := by omega
        have HT : Hid (l.take (k + 1) = l.take k ++ [l.getD k (false, 0, [])]) := take_snoc l k _ hlt
        have hm : l.getD k (false, 0, []) ∈ l := by simp [List.getD, hlt]
        have hP := HV.out.1 _ hm
        have hL := hlen _ hm
        have hel := encL_len (l.take k) (fun p hp => hlen p (List.mem_of_mem_take hp))
        have htl := List.length_take_le k l
        have hzr := HB.out.size
        have HCell : Hid (∀ wq, Below w1.heap.size w1 wq → wq.cell? ⟨b, off + k * 3 + 2, none⟩ = some (.string (strOfNums (l.getD k (false, 0, [])).2.2))) := by
          intro wq hbq
          obtain ⟨b', off', cap'', e, _, _, d0, d1, d2⟩ := (HV.out.up hbq).at k hlt
          simp at e
          obtain ⟨⟨rfl, rfl⟩, rfl⟩ := e
          exact d2
        clear hm
        generalize l.getD k (false, 0, []) = y at *
        obtain ⟨yb, yn, yt⟩ := y
        obtain ⟨⟨n0, n1⟩, hoct, _⟩ := hP
        simp only at c0 c1 c2 n0 n1 hoct hL
        have HO : Hid (∀ x ∈ yt, 0 ≤ x ∧ x ≤ 255) := hoct
        cases yb
        · go_wp2_with (at_builtin; refine wpList_append_lits _ rfl _ _ rfl w1.heap.size _ (encL (l.take k)) rfl HW.out [34] 1 _ rfl rfl ?csA ?c1A ?c2A ?c3A ?_)
          try case csA => rfl
          try case c1A => decide
          try case c2A => (try simp); omega
          try case c3A => omega
          intro v2 w2 ho2 hb2
          have HB2 : Hid (Below w1.heap.size w1 w2) := HB.out.trans hb2
          have HW2 : Hid (OwnB w2 w1.heap.size v2 (encL (l.take k) ++ 34 :: esc (yt.take 0))) := by
            have e : esc (yt.take 0) = [] := by simp [esc]
            unfold Hid
            rw [e]
            exact ho2
          clear ho2 hb2 HW HB c0 c1 c2 hoct hzr
          go_wp2
          go_loopw [5, 8] (fun vb i wq => ∃ j : Nat, j ≤ yt.length ∧ i = .int .i64 j ∧ Hid (OwnB wq w1.heap.size vb (encL (l.take k) ++ 34 :: esc (yt.take j))) ∧ Hid (Below w1.heap.size w1 wq)) (fun _ i _ => yt.length - (intOf i).toNat)
          case atStart => exact ⟨0, Nat.zero_le _, rfl, HW2, HB2⟩
          case round =>
            obtain ⟨j, hj, rfl, HWq, HBq⟩ := hrel
            have cq := HCell.out _ HBq.out
            have hzq := HBq.out.size
            have hsz := str_size yt
            have hesl := esc_len (yt.take j)
            have hytl := List.length_take_le j yt
            try simp only at cq
            by_cases hjl : j < yt.length
            · have hjs : j < (strOfNums yt).size := by omega
              have hy := str_at yt HO.out j hjs
              have hyb : 0 ≤ yt.getD j 0 ∧ yt.getD j 0 ≤ 255 := HO.out _ (by simp [List.getD, hjl])
              have HTj : Hid (yt.take (j + 1) = yt.take j ++ [yt.getD j 0]) := take_snoc yt j 0 hjl
              have hjl' : (j : Int) < (yt.length : Int) := by omega
              generalize yt.getD j 0 = z at *
              by_cases c : z = 0
              · subst c
                go_wp2_with (at_builtin; refine wpList_append_lits _ rfl _ _ rfl w1.heap.size _ (encL (l.take k) ++ 34 :: esc (yt.take j)) rfl HWq.out [0] 1 _ rfl rfl ?csB ?c1B ?c2B ?c3B ?_)
                try case csB => rfl
                try case c1B => decide
                try case c2B => (try simp); omega
                try case c3B => omega
                intro v3 w3 ho3 hb3
                have HB3 : Hid (Below w1.heap.size w1 w3) := HBq.out.trans hb3
                have HW3 : Hid (OwnB w3 w1.heap.size v3 (encL (l.take k) ++ 34 :: (esc (yt.take j) ++ [0]))) := by unfold Hid; simpa using ho3
                have cq3 := HCell.out _ HB3.out
                have hz3 := HB3.out.size
                try simp only at cq3
                clear ho3 hb3 HWq HBq cq
                go_wp2_with (at_builtin; refine wpList_append_lits _ rfl _ _ rfl w1.heap.size _ (encL (l.take k) ++ 34 :: (esc (yt.take j) ++ [0])) rfl HW3.out [255] 1 _ rfl rfl ?csC ?c1C ?c2C ?c3C ?_)
                try case csC => rfl
                try case c1C => decide
                try case c2C => (try simp); omega
                try case c3C => omega
                intro v4 w4 ho4 hb4
                have HB4 : Hid (Below w1.heap.size w1 w4) := HB3.out.trans hb4
                have HW4 : Hid (OwnB w4 w1.heap.size v4 (encL (l.take k) ++ 34 :: esc (yt.take (j + 1)))) := by
                  unfold Hid
                  rw [HTj.out, esc_append]
                  simpa [esc] using ho4
                clear ho4 hb4 HW3 HB3 cq3
                go_wp2
                exact ⟨⟨j + 1, by omega, by go_num, HW4, HB4⟩, by simp [intOf]; omega⟩
              · have cb : (z == 0) = false := by simp [c]
                go_wp2_with (at_builtin; refine wpList_append_lits _ rfl _ _ rfl w1.heap.size _ (encL (l.take k) ++ 34 :: esc (yt.take j)) rfl HWq.out [z] 1 _ rfl rfl ?csD ?c1D ?c2D ?c3D ?_)
                try case csD => rfl
                try case c1D => (try simp); omega
                try case c2D => (try simp); omega
                try case c3D => omega
                intro v3 w3 ho3 hb3
                have HB3 : Hid (Below w1.heap.size w1 w3) := HBq.out.trans hb3
                have HW3 : Hid (OwnB w3 w1.heap.size v3 (encL (l.take k) ++ 34 :: esc (yt.take (j + 1)))) := by
                  unfold Hid
                  rw [HTj.out, esc_append]
                  simpa [esc, c] using ho3
                have cq3 := HCell.out _ HB3.out
                try simp only at cq3
                clear ho3 hb3 HWq HBq cq
                go_wp2
                exact ⟨⟨j + 1, by omega, by go_num, HW3, HB3⟩, by simp [intOf]; omega⟩
            · obtain rfl : j = yt.length := by omega
              rw [List.take_length] at HWq hesl
              have hjl' : ¬ (yt.length : Int) < (yt.length : Int) := by omega
              go_wp2_with (at_builtin; refine wpList_append_lits _ rfl _ _ rfl w1.heap.size _ (encL (l.take k) ++ 34 :: esc yt) rfl HWq.out [0, 1] 2 _ rfl rfl ?csE ?c1E ?c2E ?c3E ?_)
              try case csE => rfl
              try case c1E => decide
              try case c2E => (try simp); omega
              try case c3E => omega
              intro v3 w3 ho3 hb3
              have HB3 : Hid (Below w1.heap.size w1 w3) := HBq.out.trans hb3
              have HW3 : Hid (OwnB w3 w1.heap.size v3 (encL (l.take (k + 1)))) := by
                unfold Hid
                rw [HT.out, encL_snoc]
                have e : encP (false, yn, yt) = 34 :: (esc yt ++ [0, 1]) := rfl
                rw [e]
                simpa using ho3
              clear ho3 hb3 HWq HBq cq
              go_wp2
              exact ⟨⟨k + 1, by omega, by go_num, HW3, HB3⟩, by simp [intOf]; omega⟩
        · have hx := xor_to yn n0 n1
          have p0 : 0 ≤ yn + 9223372036854775808 := by omega
          have p1 : yn + 9223372036854775808 ≤ 18446744073709551615 := by omega
          go_wp2_with (at_builtin; refine wpList_append_lits _ rfl _ _ rfl w1.heap.size _ (encL (l.take k)) rfl HW.out (17 :: num8 (yn + 9223372036854775808)) 9 _ rfl rfl ?csF ?c1F ?c2F ?c3F ?_)
          try case csF =>
            have e : (yn + 9223372036854775808) / 72057594037927936 % 256 = (yn + 9223372036854775808) / 72057594037927936 := by omega
            simp [num8, e]
          try case c1F =>
            intro x hx
            first | exact num8_octet _ x hx | (rcases List.mem_cons.1 hx with h | h; omega; exact num8_octet _ x h)
          try case c2F =>
            have e : (num8 (yn + 9223372036854775808)).length = 8 := rfl
            (try simp)
            omega
          try case c3F => omega
          intro v3 w3 ho3 hb3
          have HB3 : Hid (Below w1.heap.size w1 w3) := HB.out.trans hb3
          have HW3 : Hid (OwnB w3 w1.heap.size v3 (encL (l.take (k + 1)))) := by
            unfold Hid
            rw [HT.out, encL_snoc]
            exact ho3
          clear ho3 hb3 HW HB
          go_wp2
          exact ⟨⟨k + 1, by omega, by go_num, HW3, HB3⟩, by simp [intOf]; omega⟩
      · obtain rfl : k = l.length := by omega
        rw [List.take_length] at HW
        have kc := run_convert_octs (encL l) _ _ (Octs.own HW.out (encL_octet l HV.out.1))
        go_wp2
        go_ret2
        rw [HE.out]
        exact ⟨rfl, HB.out⟩
  · have HE : Hid (encodeOf l = ([], checkOf l)) := by unfold Hid encodeOf; rw [if_neg hc]
    have cb : (checkOf l == 0) = false := by simp [hc]
    go_enter Try.func11, Try.ntmps11
    go_wp2_with fail
    refine (refCheck_any l _ _ HV.out).mono ?_
    rintro e w1 ⟨rfl, rfl⟩
    go_wp2
    go_ret2
    rw [HE.out]
    exact ⟨rfl, Below.refl _ _⟩
end Go.Proofs.Ytjnbjooagdgfpaa
