/- The document's item and field. -/
import Derived.Test.YtpjmieiajhhbaaaDoorGN
import Derived.Deep.Cut
import Derived.Deep.RegionWith
namespace Go.Proofs.YtpjmieiajhhbaaaDoor
open Go.RowKit
set_option linter.unusedVariables false
set_option linter.unusedSimpArgs false

theorem cut_head (l : List Int) (k n : Nat) (hk : k ≤ l.length) (hn : n = l.length) : (strOfNums l).extract 0 k = strOfNums (l.take k) := by
  rw [str_cut, Nat.sub_zero, List.drop_zero]
theorem cut_tail (l : List Int) (k n : Nat) (hn : n = l.length) : (strOfNums l).extract k n = strOfNums (l.drop k) := by
  subst hn
  rw [str_cut]
  congr 1
  rw [List.take_of_length_le]
  rw [List.length_drop]
  omega
theorem octs_take {l : List Int} (hx : ∀ x ∈ l, 0 ≤ x ∧ x ≤ 255) (k : Nat) : ∀ x ∈ l.take k, 0 ≤ x ∧ x ≤ 255 := fun x h => hx x (List.mem_of_mem_take h)
theorem octs_drop {l : List Int} (hx : ∀ x ∈ l, 0 ≤ x ∧ x ≤ 255) (k : Nat) : ∀ x ∈ l.drop k, 0 ≤ x ∧ x ≤ 255 := fun x h => hx x (List.mem_of_mem_drop h)
theorem star_eq (l : List Int) (hx : ∀ x ∈ l, 0 ≤ x ∧ x ≤ 255) : ((strOfNums l).toList == [42]) = decide (l = [42]) := by
  have h := str_eq l [42] hx (by simp)
  rw [str_list [42]] at h
  exact h
theorem spanP_bounds {l : List Int} {lo hi : Int} {b : Bool} {q : Int × Int} (h : spanP l lo hi b = some q) (h0 : 0 ≤ lo ∧ lo ≤ 99) (h1 : 0 ≤ hi ∧ hi ≤ 99) : (-1 ≤ q.1 ∧ q.1 ≤ 99) ∧ -1 ≤ q.2 ∧ q.2 ≤ 99 := by
  unfold spanP at h
  split at h
  · injection h with h; subst h; exact ⟨⟨by show -1 ≤ lo; omega, by show lo ≤ 99; omega⟩, by show -1 ≤ hi; omega, by show hi ≤ 99; omega⟩
  · split at h
    · injection h with h; subst h; exact ⟨numD_bounds _, numD_bounds _⟩
    · split at h
      · cases h
      · injection h with h; subst h; exact ⟨numD_bounds _, numD_bounds _⟩
set_option maxHeartbeats 2000000 in
set_option maxRecDepth 20000 in
theorem itemR_any (l : List Int) (lo hi : Nat) (hlo : lo < 64) (hh : hi < 64) (hx : ∀ x ∈ l, 0 ≤ x ∧ x ≤ 255) (hm : l.length ≤ 1000000) (w : World) :
    Calls Tryd.prog 68 #[.string (strOfNums l), .int .i64 (lo : Int), .int .i64 (hi : Int)] w fun e w' => e = .returned (.int .u64 (itemN l lo hi : Int)) ∧ Below w.heap.size w w' := by
  have C0 : Hid (∀ w', Calls Tryd.prog 67 #[.string (strOfNums l), .int .u8 47] w' fun e w'' => e = .returned (.int .i64 (cutI l 47)) ∧ w'' = w') := fun w' => cutR_any l 47 hx (by omega) w'
  have CN : Hid (∀ (l' : List Int), l'.length ≤ 1000000 → (∀ x ∈ l', 0 ≤ x ∧ x ≤ 255) → ∀ w', Calls Tryd.prog 83 #[.string (strOfNums l')] w' fun e w'' => e = .returned (.int .i64 (numD l')) ∧ w'' = w') := fun l' h1 h2 w' => numberR_any l' h2 (by omega) w'
  have CC : Hid (∀ (l' : List Int), l'.length ≤ 1000000 → (∀ x ∈ l', 0 ≤ x ∧ x ≤ 255) → ∀ w', Calls Tryd.prog 67 #[.string (strOfNums l'), .int .u8 45] w' fun e w'' => e = .returned (.int .i64 (cutI l' 45)) ∧ w'' = w') := fun l' h1 h2 w' => cutR_any l' 45 h2 (by omega) w'
  have hsz := strOfNums_size l
  have HX := hid hx
  have HM := hid hm
  clear hx
  go_enter Tryd.func68, Tryd.ntmps68
  go_wp2_with fail
  refine (C0.out _).mono ?_
  rintro e w1 ⟨rfl, rfl⟩
  go_upto_if 18 with fail
  go_cut [0, 7, 8, 9] from 15 (fun v0 v7 v8 v9 wx => ∃ (l' : List Int) (st : Int) (b : Bool), v0 = .string (strOfNums l') ∧ v7 = .int .i64 st ∧ v8 = .bool b ∧ 1 ≤ st ∧ st ≤ 99 ∧ Hid (l'.length ≤ 1000000 ∧ (∀ x ∈ l', 0 ≤ x ∧ x ≤ 255) ∧ itemN l lo hi = itemR (spanP l' lo hi b) lo hi st) ∧ w1 = wx)
  case first =>
    by_cases c : cutN l 47 < l.length
    · have E1 : cutI l 47 = (cutN l 47 : Int) := if_pos c
      have EI : Hid (itemN l lo hi = if numD (l.drop (cutN l 47 + 1)) < 1 then 0 else itemR (spanP (l.take (cutN l 47)) lo hi true) lo hi (numD (l.drop (cutN l 47 + 1)))) := if_pos c
      have K1 := hid (CN.out (l.drop (cutN l 47 + 1)) (by rw [List.length_drop]; omega) (octs_drop HX.out _))
      have nb := numD_bounds (l.drop (cutN l 47 + 1))
      have et := cut_tail l (cutN l 47 + 1) l.length rfl
      have eh := cut_head l (cutN l 47) l.length (by omega) rfl
      have hL : Hid ((l.take (cutN l 47)).length ≤ 1000000) := by unfold Hid; rw [List.length_take]; omega
      have hO := hid (octs_take HX.out (cutN l 47))
      rw [E1]
      clear E1
      generalize hst : numD (l.drop (cutN l 47 + 1)) = st at *
      clear hst
      generalize l.drop (cutN l 47 + 1) = lt at *
      generalize l.take (cutN l 47) = l' at *
      generalize cutN l 47 = k at *
      go_wp2_with fail
      refine (K1.out _).mono ?_
      rintro e w2 ⟨rfl, rfl⟩
      by_cases c1 : st < 1
      · have E2 : Hid (itemN l lo hi = 0) := EI.out.trans (if_pos c1)
        go_wp2
        go_ret
        exact ⟨by rw [E2.out]; rfl, Below.refl _ _⟩
      · have E2 : Hid (itemN l lo hi = itemR (spanP l' lo hi true) lo hi st) := EI.out.trans (if_neg c1)
        go_wp2_with fail
        go_meet
        case rel => exact ⟨l', st, true, rfl, rfl, rfl, by omega, nb.2, ⟨hL.out, hO.out, E2.out⟩, rfl⟩
    · have E1 : cutI l 47 = -1 := if_neg c
      have EI : Hid (itemN l lo hi = itemR (spanP l lo hi false) lo hi 1) := if_neg c
      rw [E1]
      go_wp2_with fail
      go_meet
      case rel => exact ⟨l, 1, false, rfl, rfl, rfl, by omega, by omega, ⟨HM.out, HX.out, EI.out⟩, rfl⟩
  case rest =>
  obtain ⟨l', st, sb, rfl, rfl, rfl, s0, s1, HI, rfl⟩ := hcut
  clear C0 HX HM hsz hm
  have hsz := strOfNums_size l'
  have hm := HI.out.1
  obtain ⟨z, hz⟩ : ∃ z, z = decide (l' = [42]) := ⟨_, rfl⟩
  have se : ((strOfNums l').toList == [42]) = z := (star_eq l' HI.out.2.1).trans hz.symm
  have HZ := hid hz
  clear hz
  go_upto_if 32 with fail
  go_cut [10, 11, 12] from 15 (fun va vb vd wx => ∃ a b : Int, va = .int .i64 a ∧ vb = .int .i64 b ∧ -1 ≤ a ∧ a ≤ 99 ∧ -1 ≤ b ∧ b ≤ 99 ∧ Hid (itemN l lo hi = rngN lo hi a b st) ∧ Hid (Below w1.heap.size w1 wx))
  case first =>
    cases z
    case true =>
      have c0 : l' = [42] := of_decide_eq_true HZ.out.symm
      have E : Hid (itemN l lo hi = rngN lo hi lo hi st) := by
        have := HI.out.2.2
        rw [show spanP l' lo hi sb = some ((lo : Int), (hi : Int)) from if_pos c0] at this
        exact this
      clear c0 se
      go_wp2_with fail
      go_meet
      case rel => exact ⟨lo, hi, rfl, rfl, by omega, by omega, by omega, by omega, E, Below.refl _ _⟩
    case false =>
      have c0 : ¬ l' = [42] := of_decide_eq_false HZ.out.symm
      have HS := hid HI.out.2.2
      have hO := hid HI.out.2.1
      clear se
      by_cases c1 : cutN l' 45 < l'.length
      · have E1 : cutI l' 45 = (cutN l' 45 : Int) := if_pos c1
        have ES : spanP l' lo hi sb = some (numD (l'.take (cutN l' 45)), numD (l'.drop (cutN l' 45 + 1))) := by unfold spanP; rw [if_neg c0, if_pos c1]
        rw [ES] at HS
        have K0 := hid (CC.out l' hm hO.out w1)
        rw [E1] at K0
        have K1 := hid (CN.out (l'.take (cutN l' 45)) (by rw [List.length_take]; omega) (octs_take hO.out _))
        have K2 := hid (CN.out (l'.drop (cutN l' 45 + 1)) (by rw [List.length_drop]; omega) (octs_drop hO.out _))
        have et := cut_tail l' (cutN l' 45 + 1) l'.length rfl
        have eh := cut_head l' (cutN l' 45) l'.length (by omega) rfl
        have n1 := numD_bounds (l'.take (cutN l' 45))
        have n2 := numD_bounds (l'.drop (cutN l' 45 + 1))
        clear E1 ES c0
        generalize numD (l'.take (cutN l' 45)) = a at *
        generalize numD (l'.drop (cutN l' 45 + 1)) = b at *
        generalize l'.take (cutN l' 45) = la at *
        generalize l'.drop (cutN l' 45 + 1) = lb at *
        generalize cutN l' 45 = k at *
        go_wp2_with fail
        refine K0.out.mono ?_
        rintro e w2 ⟨rfl, rfl⟩
        go_wp2_with fail
        go_quiet ((go_at_call 83; with_reducible first | exact Calls.quiet_of_same (K1.out _) | exact Calls.quiet_of_same (K2.out _)))
        go_wp2_with fail
        go_meet
        case rel => exact ⟨a, b, rfl, rfl, n1.1, n1.2, n2.1, n2.2, HS, up_drewN _ _⟩
      · have E1 : cutI l' 45 = -1 := if_neg c1
        have K0 := hid (CC.out l' hm hO.out w1)
        rw [E1] at K0
        have K1 := hid (CN.out l' hm hO.out)
        have n1 := numD_bounds l'
        have ES : spanP l' lo hi sb = if sb then none else some (numD l', numD l') := by unfold spanP; rw [if_neg c0, if_neg c1]
        rw [ES] at HS
        clear E1 ES c0 c1
        generalize numD l' = a at *
        cases sb
        · go_wp2_with fail
          refine K0.out.mono ?_
          rintro e w2 ⟨rfl, rfl⟩
          go_wp2_with fail
          refine (K1.out _).mono ?_
          rintro e w2 ⟨rfl, rfl⟩
          go_wp2_with fail
          go_meet
          case rel => exact ⟨a, a, rfl, rfl, n1.1, n1.2, n1.1, n1.2, HS, Below.refl _ _⟩
        · have E0 : Hid (itemN l lo hi = 0) := HS.out
          go_wp2_with fail
          refine K0.out.mono ?_
          rintro e w2 ⟨rfl, rfl⟩
          go_wp2_with fail
          refine (K1.out _).mono ?_
          rintro e w2 ⟨rfl, rfl⟩
          go_wp2_with fail
          go_ret
          exact ⟨by rw [E0.out]; rfl, Below.refl _ _⟩
  case rest =>
  obtain ⟨a, b, rfl, rfl, a0, a1, b0, b1, HE, HB⟩ := hcut
  clear HI se hsz hm CN CC HZ
  by_cases c : a < lo ∨ hi < b ∨ b < a
  · have E0 : Hid (itemN l lo hi = 0) := by
      unfold Hid
      rw [HE.out]
      exact if_pos c
    clear HE
    by_cases c1 : a < (lo : Int)
    · go_wp2
      go_ret
      exact ⟨by rw [E0.out]; rfl, HB.out⟩
    by_cases c2 : (hi : Int) < b
    · go_wp2
      go_ret
      exact ⟨by rw [E0.out]; rfl, HB.out⟩
    have c3 : b < a := by omega
    go_wp2
    go_ret
    exact ⟨by rw [E0.out]; rfl, HB.out⟩
  · have E0 : Hid (itemN l lo hi = setN 64 fun j => decide (a ≤ (j : Int)) && (decide ((j : Int) ≤ b) && decide (((j : Int) - a) % st = 0))) := by
      unfold Hid
      rw [HE.out]
      exact if_neg c
    clear HE
    have n1 : ¬ a < (lo : Int) := by omega
    have n2 : ¬ (hi : Int) < b := by omega
    have n3 : ¬ b < a := by omega
    obtain ⟨A, rfl⟩ : ∃ A : Nat, a = (A : Int) := ⟨a.toNat, by omega⟩
    clear c
    go_wp2_with fail
    go_loopw [13, 14] (fun s i wr => ∃ (k n : Nat), i = .int .i64 (k : Int) ∧ A ≤ k ∧ k ≤ 170 ∧ s = .int .u64 (n : Int) ∧ n < 18446744073709551616 ∧ Hid (((k : Int) - A) % st = 0 ∧ (k = A ∨ (k : Int) - st ≤ b)) ∧ Hid (∀ j, j < 64 → n.testBit j = (decide ((A : Int) ≤ (j : Int)) && (decide ((j : Int) < (k : Int)) && decide (((j : Int) - A) % st = 0)))) ∧ wc = wr) (fun _ q _ => (200 - intOf q).toNat)
    case atStart =>
      refine ⟨A, 0, rfl, by omega, by omega, rfl, by omega, ⟨by simp, .inl rfl⟩, fun j _ => ?_, rfl⟩
      rw [Nat.zero_testBit, eq_comm, Bool.and_eq_false_iff]
      by_cases q : (A : Int) ≤ (j : Int)
      · right
        rw [Bool.and_eq_false_iff]
        left
        exact decide_eq_false (by omega)
      · left
        exact decide_eq_false q
    case round =>
      obtain ⟨k, n, rfl, k0, k1, rfl, nl, hk, hn, rfl⟩ := hrel
      by_cases c : (k : Int) ≤ b
      · have k64 : k < 64 := by omega
        have po := bit_or n (2 ^ k) nl (pow_lt k64)
        have PO := hid po
        clear po
        have N2 : Hid (n ||| 2 ^ k < 18446744073709551616) := or_lt nl (pow_lt k64)
        obtain ⟨K, hK⟩ : ∃ K : Nat, (k : Int) + st = (K : Int) := ⟨((k : Int) + st).toNat, by omega⟩
        have HK : Hid (((K : Int) - A) % st = 0 ∧ (K = A ∨ (K : Int) - st ≤ b)) := by
          unfold Hid
          rw [← hK]
          exact ⟨step_on hk.out.1, .inr (by omega)⟩
        have HB2 : Hid (∀ j, j < 64 → (n ||| 2 ^ k).testBit j = (decide ((A : Int) ≤ (j : Int)) && (decide ((j : Int) < (K : Int)) && decide (((j : Int) - A) % st = 0)))) := by
          intro j hj
          have sb := step_bit (a := (A : Int)) (st := st) (k := (k : Int)) (j := (j : Int)) (by omega) hk.out.1
          rw [Nat.testBit_or, hn.out j hj, Nat.testBit_two_pow, Bool.eq_iff_iff, ← hK]
          simp only [Bool.or_eq_true, Bool.and_eq_true, decide_eq_true_eq]
          constructor
          · rintro (⟨h1, h2⟩ | h)
            · exact ⟨h1, sb.mpr (.inl h2)⟩
            · exact ⟨by omega, sb.mpr (.inr (by omega))⟩
          · rintro ⟨h1, h2⟩
            rcases sb.mp h2 with q | q
            · exact .inl ⟨h1, q⟩
            · exact .inr (by omega)
        go_wp2
        exact ⟨⟨K, n ||| 2 ^ k, by go_num, by omega, by omega, by rw [pow_wrap k64, PO.out], N2, HK, HB2, by first | rfl | trivial⟩, by simp [intOf]; omega⟩
      · have E : Hid (n = itemN l lo hi) := by
          unfold Hid
          rw [E0.out]
          refine set_eq nl fun j hj => ?_
          rw [hn.out j hj, Bool.eq_iff_iff]
          simp only [Bool.and_eq_true, decide_eq_true_eq]
          constructor
          · rintro ⟨h1, h2, h3⟩
            refine ⟨h1, ?_, h3⟩
            rcases hk.out.2 with q | q
            · omega
            · have := step_back (a := (A : Int)) (st := st) (k := (k : Int)) (j := (j : Int)) (by omega) hk.out.1 h3 h2
              omega
          · rintro ⟨h1, h2, h3⟩
            exact ⟨h1, by omega, h3⟩
        go_wp2
        go_ret
        exact ⟨by rw [← E.out]; rfl, HB.out⟩
end Go.Proofs.YtpjmieiajhhbaaaDoor
