/- The program's Decode of layer 9. -/
import Derived.Test.YtibjjhceiohmeaaYMath
import Derived.Test.YtibjjhceiohmeaaYEnc
import Derived.Test.YtibjjhceiohmeaaNH
namespace Go.Proofs.Ytibjjhceiohmeaa
open Go.RowKit SumPlain
set_option linter.unusedVariables false
set_option linter.unusedSimpArgs false

theorem equal_any (l1 l2 : List Int) (v1 v2 : Value) (w : World) (h1 : Octs w v1 l1) (h2 : Octs w v2 l2) : Calls Try.prog 32 #[v1, v2] w fun e w' => e = .returned (.bool (decide (l1 = l2))) ∧ w' = w := by
  have k1 := run_convert_octs l1 v1 w h1
  have k2 := run_convert_octs l2 v2 w h2
  have hs := str_eq l1 l2 h1.1 h2.1
  clear h1 h2
  go_enter Try.func32, Try.ntmps32
  go_wp2
  go_ret
  exact ⟨rfl, rfl⟩

set_option maxHeartbeats 4000000 in
theorem decode_any (B : List Int) (v : Value) (w : World) (hv : Octs w v B) (hl : B.length ≤ 140737488351232) :
    Calls Try.prog 13 #[v] w fun e w' => ∃ a n c, e = .returned (.tuple #[.slice a n c, .int .i64 (decB B).2]) ∧ Hid (n = (decB B).1.length) ∧ Hid (OwnR w' w.heap.size 36 4 (.slice a n c) ((decB B).1.map enRow)) ∧ Hid (Below w.heap.size w w') := by
  rw [← decP_eq]
  have HV : Hid (Octs w v B) := hv
  have HC := bare_any B v w hv (by omega)
  clear hv
  by_cases h0 : (bareOf B).2 = 0
  · rw [h0] at HC
    have HL : Hid ((bareOf B).1.length ≤ 140737488355328) := by have := bare_le B; unfold Hid; omega
    go_enter Try.func13, Try.ntmps13
    go_wp2_with fail
    refine HC.mono ?_
    rintro e w1 ⟨v1, rfl, O1, b1⟩
    have U1 : Hid (Below w.heap.size w w1) := b1
    obtain ⟨a1, c1, hv1, _⟩ := own_len O1
    subst hv1
    have HT := read_any (bareOf B).1 a1 c1 w1 (Octs.own O1 (bare_oct HV.out.1)) HL.out
    generalize hnn : (bareOf B).1.length = n1 at *
    clear HC O1 b1
    have HD : Hid (decP B = decM B (readB (bareOf B).1)) := by unfold Hid decP; rw [if_pos h0]
    cases hr : readB (bareOf B).1 with
    | none =>
      rw [hr] at HT HD
      have HF : Hid (decP B = ([], 21)) := HD
      clear HD
      simp only [Option.isSome_none] at HT
      go_wp2_with fail
      refine HT.mono ?_
      rintro e w2 ⟨a2, n2, c2, rfl, P2, U2⟩
      have U2' : Hid (Below w.heap.size w w2) := up_trans U1.out U2.out
      go_wp2
      go_ret2
      rw [HF.out]
      exact ⟨none, 0, 0, rfl, rfl, OwnR.nil _ _ _ _, U2'⟩
    | some L =>
      rw [hr] at HT HD
      replace HD : Hid (decP B = if encB L = (B, 0) then (L, 0) else ([], 21)) := HD
      simp only [Option.isSome_some, Option.getD_some] at HT
      go_wp2_with fail
      refine HT.mono ?_
      rintro e w2 ⟨a2, n2, c2, rfl, P2, U2⟩
      have HE : Hid (EntsR w2 (.slice a2 n2 c2) L) := Rws.own P2.out.2
      have U2' : Hid (Below w.heap.size w w2) := up_trans U1.out U2.out
      have S1 : Hid (w.heap.size ≤ w1.heap.size) := U1.out.size
      clear HT U2 U1 HL hr
      have HN := encP_any L _ w2 HE.out
      by_cases h2 : (encB L).2 = 0
      · rw [h2] at HN
        go_wp2_with fail
        refine HN.mono ?_
        rintro e w3 ⟨v3, rfl, O3, b3⟩
        have U3 : Hid (Below w2.heap.size w2 w3) := b3
        have HQ := equal_any (encB L).1 B v3 v w3 (Octs.own O3 (encB_oct L)) (HV.out.up (up_trans U2'.out b3))
        clear HN O3 b3
        by_cases h3 : (encB L).1 = B
        · rw [decide_eq_true h3] at HQ
          have HF : Hid (decP B = (L, 0)) := by
            unfold Hid
            rw [HD.out, if_pos (Prod.ext h3 h2)]
          go_wp2_with fail
          refine HQ.mono ?_
          rintro e w4 ⟨rfl, rfl⟩
          go_wp2
          go_ret2
          rw [HF.out]
          exact ⟨a2, n2, c2, rfl, P2.out.1, (P2.out.2.up U3.out).mono S1.out, up_trans U2'.out U3.out⟩
        · rw [decide_eq_false h3] at HQ
          have HF : Hid (decP B = ([], 21)) := by
            unfold Hid
            rw [HD.out, if_neg (fun e => h3 (by rw [e]))]
          go_wp2_with fail
          refine HQ.mono ?_
          rintro e w4 ⟨rfl, rfl⟩
          go_wp2
          go_ret2
          rw [HF.out]
          exact ⟨none, 0, 0, rfl, rfl, OwnR.nil _ _ _ _, up_trans U2'.out U3.out⟩
      · have HF : Hid (decP B = ([], 21)) := by
          unfold Hid
          rw [HD.out, if_neg (fun e => h2 (by rw [e]))]
        generalize (encB L).2 = q at *
        have hq1 : (q == 0) = false := by simp [h2]
        have hq2 : (q != 0) = true := by simp [h2]
        go_wp2_with fail
        refine HN.mono ?_
        rintro e w3 ⟨v3, rfl, O3, b3⟩
        have U3 : Hid (Below w2.heap.size w2 w3) := b3
        clear HN O3 b3
        go_wp2
        go_ret2
        rw [HF.out]
        exact ⟨none, 0, 0, rfl, rfl, OwnR.nil _ _ _ _, up_trans U2'.out U3.out⟩
  · have HF : Hid (decP B = ([], (bareOf B).2)) := by unfold Hid decP; rw [if_neg h0]
    generalize (bareOf B).2 = q at *
    have hq1 : (q == 0) = false := by simp [h0]
    have hq2 : (q != 0) = true := by simp [h0]
    go_enter Try.func13, Try.ntmps13
    go_wp2_with fail
    refine HC.mono ?_
    rintro e w1 ⟨v1, rfl, O1, b1⟩
    have U1 : Hid (Below w.heap.size w w1) := b1
    clear HC O1 b1
    go_wp2
    go_ret2
    rw [HF.out]
    exact ⟨none, 0, 0, rfl, rfl, OwnR.nil _ _ _ _, U1⟩
end Go.Proofs.Ytibjjhceiohmeaa
