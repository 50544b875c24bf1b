/- The document's reader of layer 6: texts. -/
import Derived.Test.YtgphkddcfcmaiaaGTake
import Derived.Test.YtgphkddcfcmaiaaWDec2
namespace Go.Proofs.Ytgphkddcfcmaiaa
open Go.RowKit SumPlain
set_option linter.unusedVariables false

/-- A length of at most 2^16, and as many octets. -/
def textQ (l : List Int) : Except Int (ByteArray × List Int) :=
  match numQ 65536 5 l with
  | .error e => .error e
  | .ok (n, r) => if (r.length : Int) < n then .error 8 else .ok (strOfNums (r.take n.toNat), r.drop n.toNat)

theorem textQ_eq (l : List Int) : textP 5 l = textQ l := by
  unfold textP textQ numP numQ
  by_cases h0 : (getOf l).2.2 = 0
  · rw [if_pos h0, if_pos h0]
    by_cases h1 : 1099511627776 < (getOf l).1
    · rw [if_pos h1, if_pos (by omega)]
    · rw [if_neg h1]
      by_cases h2 : 65536 < (getOf l).1
      · rw [if_pos h2]
        simp only
        rw [if_pos h2]
      · rw [if_neg h2]
        simp only
        rw [if_neg h2]
  · rw [if_neg h0, if_neg h0]
theorem textQ_err {l : List Int} {y : Int} (h : textQ l = .error y) : y ≠ 0 := by
  rw [← textQ_eq] at h
  exact textP_err (by decide) h

theorem refText_err (N : Nat) (X : List Int) (a : Option Addr) (c k : Nat) (y : Int) (w0 w : World) (h : RQ w0 w N X a c k y) (hy : y ≠ 0) :
    Calls Try.prog 38 #[.pointer (some ⟨N, 0, none⟩), .int .u64 65536, .int .i64 5] w fun e w' => e = .returned (.string ⟨#[]⟩) ∧ w' = w := by
  have HH : Hid (RQ w0 w N X a c k y) := h
  have hk := run_convert_octs [] (.slice none 0 0) w ⟨by simp, .inl ⟨rfl, _, _, rfl, fun _ => rfl⟩⟩
  clear h
  go_enter Try.func38, Try.ntmps38
  go_wp2_with fail
  refine (refNum_err N X a c k y 65536 5 w0 w HH.out hy).mono ?_
  rintro e w1 ⟨rfl, rfl⟩
  go_wp2_with fail
  refine (refTake_err N X a c k y 0 w0 w1 HH.out hy).mono ?_
  rintro e w2 ⟨rfl, rfl⟩
  go_wp2
  go_ret
  exact ⟨rfl, rfl⟩

/-- How a text ends. -/
def TextEnd (w0 w : World) (N : Nat) (X : List Int) (a : Option Addr) (c k : Nat) (e : Ending) (w' : World) : Prop :=
  (∃ s j, textQ (X.drop k) = .ok (s, X.drop j) ∧ e = .returned (.string s) ∧ RQ w0 w' N X a c j 0 ∧ w.grownBy w' (some N)) ∨
  (∃ y j, textQ (X.drop k) = .error y ∧ y ≠ 0 ∧ e = .returned (.string ⟨#[]⟩) ∧ RQ w0 w' N X a c j y ∧ w.grownBy w' (some N))

set_option maxHeartbeats 1000000 in
theorem refText_any (N : Nat) (X : List Int) (a : Option Addr) (c k : Nat) (w0 w : World) (h : RQ w0 w N X a c k 0) :
    Calls Try.prog 38 #[.pointer (some ⟨N, 0, none⟩), .int .u64 65536, .int .i64 5] w fun e w' => TextEnd w0 w N X a c k e w' := by
  have HH : Hid (RQ w0 w N X a c k 0) := h
  clear h
  go_enter Try.func38, Try.ntmps38
  go_wp2_with fail
  refine (refNum_any N X a c k 65536 5 w0 w HH.out (by decide)).mono ?_
  rintro e w1 (⟨n, j, hq, hn, rfl, R1, g1⟩ | ⟨y, hq, rfl, R1, g1⟩)
  · obtain ⟨m, rfl⟩ : ∃ m : Nat, n = (m : Int) := ⟨n.toNat, by omega⟩
    have RR : Hid (RQ w0 w1 N X a c j 0) := R1
    have GG : Hid (w.grownBy w1 (some N)) := g1
    have hj := R1.le
    have hm2 : m ≤ 65536 := by omega
    by_cases hl : X.length - j < m
    · have HT : Hid (textQ (X.drop k) = .error 8) := by
        unfold Hid textQ
        rw [hq]
        simp only
        rw [if_pos (by rw [List.length_drop]; omega)]
      clear R1 g1 hq hn
      go_wp2_with fail
      refine (refTake_short N X a c j m w0 w1 RR.out hl hm2).mono ?_
      rintro e w2 ⟨rfl, R2, G2⟩
      have hk := run_convert_octs [] (.slice none 0 0) w2 ⟨by simp, .inl ⟨rfl, _, _, rfl, fun _ => rfl⟩⟩
      go_wp2
      go_ret
      exact .inr ⟨8, j, HT.out, by decide, rfl, R2.out, grown_trans GG.out G2.out⟩
    · have HT : Hid (textQ (X.drop k) = .ok (strOfNums ((X.drop j).take m), X.drop (j + m))) := by
        unfold Hid textQ
        rw [hq]
        simp only
        rw [if_neg (by rw [List.length_drop]; omega), Int.toNat_natCast, List.drop_drop]
      clear R1 g1 hq hn
      go_wp2_with fail
      refine (refTake_ok N X a c j m w0 w1 RR.out (by omega) hm2).mono ?_
      rintro e w2 ⟨a2, c2, rfl, O2, R2, G2⟩
      have hk := run_convert_octs _ _ _ (Octs.own O2.out (fun y hy => RR.out.octs.1 y (List.mem_of_mem_drop (List.mem_of_mem_take hy))))
      go_wp2
      go_ret
      exact .inl ⟨_, _, HT.out, rfl, R2.out, grown_trans GG.out G2.out⟩
  · have hy := numQ_err (by decide) hq
    have HT : Hid (textQ (X.drop k) = .error y) := by
      unfold Hid textQ
      rw [hq]
    have RR : Hid (RQ w0 w1 N X a c k y) := R1
    have GG : Hid (w.grownBy w1 (some N)) := g1
    have hk := run_convert_octs [] (.slice none 0 0) w1 ⟨by simp, .inl ⟨rfl, _, _, rfl, fun _ => rfl⟩⟩
    clear R1 g1 hq
    go_wp2_with fail
    refine (refTake_err N X a c k y 0 w0 w1 RR.out hy).mono ?_
    rintro e w2 ⟨rfl, rfl⟩
    go_wp2
    go_ret
    exact .inr ⟨y, k, HT.out, hy, rfl, RR.out, GG.out⟩
end Go.Proofs.Ytgphkddcfcmaiaa
