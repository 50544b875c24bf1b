/- The document's Check of layer 6. -/
import Derived.Test.YtgphkddcfcmaiaaWLaw
namespace Go.Proofs.Ytgphkddcfcmaiaa
open Go.RowKit SumPlain
set_option linter.unusedVariables false

set_option maxHeartbeats 2000000 in
set_option maxRecDepth 100000 in
theorem refCheck_any (s : Int) (cs : List Chg) (a : Option Addr) (c : Nat) (w : World) (hv : ChgsR w (.slice a cs.length c) cs) :
    Calls Try.prog 22 #[.agg #[.int .i64 s, .slice a cs.length c]] w fun e w' => e = .returned (.int .i64 (checkOf s cs)) ∧ Below w.heap.size w w' := by
  have HV : Hid (ChgsR w (.slice a cs.length c) cs) := hv
  clear hv
  unfold checkOf
  by_cases h1 : s < 1
  · rw [if_pos (.inl h1)]
    go_enter Try.func22, Try.ntmps22
    go_wp2
    go_ret
    exact ⟨rfl, up_alloc _ _⟩
  by_cases h2 : 1099511627712 < s
  · rw [if_pos (.inr h2)]
    go_enter Try.func22, Try.ntmps22
    go_wp2
    go_ret
    exact ⟨rfl, up_alloc _ _⟩
  rw [if_neg (by omega)]
  by_cases h3 : cs.length < 1
  · have a3 : (cs.length : Int) < 1 := by omega
    rw [if_pos (.inl h3)]
    go_enter Try.func22, Try.ntmps22
    go_wp2
    go_ret
    exact ⟨rfl, up_alloc _ _⟩
  have a3 : ¬ (cs.length : Int) < 1 := by omega
  by_cases h4 : 64 < cs.length
  · have a4 : (64 : Int) < (cs.length : Int) := by omega
    rw [if_pos (.inr h4)]
    go_enter Try.func22, Try.ntmps22
    go_wp2
    go_ret
    exact ⟨rfl, up_alloc _ _⟩
  have a4 : ¬ (64 : Int) < (cs.length : Int) := by omega
  rw [if_neg (by omega)]
  clear h3
  go_enter Try.func22, Try.ntmps22
  go_wp2
  go_loopw [3] (fun i wr => ∃ k : Nat, k ≤ cs.length ∧ i = .int .i64 k ∧ Hid (chgsErr cs = chgsErr (cs.drop k)) ∧ Hid (Below w.heap.size w wr) ∧ Hid (wr.heap[w.heap.size]? = some (.cells #[.int .i64 s, .slice a cs.length c] 24))) (fun i _ => cs.length - (intOf i).toNat)
  case atStart => exact ⟨0, Nat.zero_le _, rfl, rfl, up_alloc _ _, blk_new _ _⟩
  case round =>
    obtain ⟨k, hk, rfl, HE, HB, HD⟩ := hrel
    have p1 := blk_cell HD.out 1 _ rfl
    by_cases hlt : k < cs.length
    · have hlt' : (k : Int) < (cs.length : Int) := by omega
      obtain ⟨b, off, cap, ch, e, q1, q2, hcs, c0, c1, c2⟩ := (HV.out.up HB.out).at k hlt
      simp at e
      obtain ⟨rfl, rfl⟩ := e
      have HQ : Hid (chgsErr (cs.drop k) = if chgErr ch = 0 then chgsErr (cs.drop (k + 1)) else chgErr ch) := by
        have : cs.drop k = ch :: cs.drop (k + 1) := by
          rw [List.drop_eq_getElem_cons hlt]
          congr 1
          rw [List.getElem?_eq_getElem hlt] at hcs
          exact Option.some.inj hcs
        unfold Hid
        rw [this]
        rfl
      clear hcs
      have UB : Hid (∀ o, Below w.heap.size w (wr.alloc o)) := fun o => up_al HB.out o
      have UD : Hid (∀ o, (wr.alloc o).heap[w.heap.size]? = some (.cells #[.int .i64 s, .slice (some ⟨b, off, none⟩) cs.length c] 24)) := fun o => blk_up HD.out (up_alloc wr o)
      have bad : ∀ x : Int, chgErr ch = x → x ≠ 0 → Hid (chgsErr cs = x) := by
        intro x hx hn
        have := HQ.out
        rw [if_neg (by rw [hx]; exact hn), hx] at this
        exact HE.out.trans this
      have good : chgErr ch = 0 → Hid (chgsErr cs = chgsErr (cs.drop (k + 1))) := by
        intro hx
        have := HQ.out
        rw [if_pos hx] at this
        exact HE.out.trans this
      have BAD : Hid (∀ x : Int, chgErr ch = x → x ≠ 0 → Hid (chgsErr cs = x)) := bad
      have GOOD : Hid (chgErr ch = 0 → Hid (chgsErr cs = chgsErr (cs.drop (k + 1)))) := good
      clear HQ bad good HE
      obtain ⟨ck, cd, cv⟩ := ch
      simp only at c0 c1 c2
      by_cases g1 : ck.size < 1
      · have b1 : (ck.size : Int) < 1 := by omega
        have R := BAD.out 31 (by unfold chgErr; rw [if_pos (.inl g1)]) (by decide)
        clear BAD GOOD
        go_wp2
        go_ret
        exact ⟨ret_int R.out.symm, UB.out _⟩
      have b1 : ¬ (ck.size : Int) < 1 := by omega
      by_cases g2 : 96 < ck.size
      · have b2 : (96 : Int) < (ck.size : Int) := by omega
        have R := BAD.out 31 (by unfold chgErr; rw [if_pos (.inr g2)]) (by decide)
        clear BAD GOOD
        go_wp2
        go_ret
        exact ⟨ret_int R.out.symm, UB.out _⟩
      have b2 : ¬ (96 : Int) < (ck.size : Int) := by omega
      by_cases g3 : 512 < cv.size
      · have b3 : (512 : Int) < (cv.size : Int) := by omega
        have R := BAD.out 5 (by unfold chgErr; simp only; rw [if_neg (by omega), if_pos g3]) (by decide)
        clear BAD GOOD
        go_wp2
        go_ret
        exact ⟨ret_int R.out.symm, UB.out _⟩
      have b3 : ¬ (512 : Int) < (cv.size : Int) := by omega
      cases cd with
      | false =>
        have R := GOOD.out (by unfold chgErr; simp only; rw [if_neg (by omega), if_neg g3, if_neg (by simp)])
        clear BAD GOOD
        go_wp2
        exact ⟨⟨k + 1, hlt, by go_num, R, UB.out _, UD.out _⟩, by simp [intOf]; omega⟩
      | true =>
        by_cases g4 : cv.size = 0
        · have d1 := str_empty cv g4
          have d2 : (cv.toList == []) = true := by rw [d1]; rfl
          have R := GOOD.out (by unfold chgErr; simp only; rw [if_neg (by omega), if_neg g3, if_neg (by simp [g4])])
          clear BAD GOOD
          go_wp2
          exact ⟨⟨k + 1, hlt, by go_num, R, UB.out _, UD.out _⟩, by simp [intOf]; omega⟩
        · have d1 := str_full cv g4
          have d2 : (cv.toList == []) = false := by simp [d1]
          have R := BAD.out 1 (by unfold chgErr; simp only; rw [if_neg (by omega), if_neg g3, if_pos (by simp [g4])]) (by decide)
          clear BAD GOOD
          go_wp2
          go_ret
          exact ⟨ret_int R.out.symm, UB.out _⟩
    · have hlt' : ¬ (k : Int) < (cs.length : Int) := by omega
      have HD2 : Hid (chgsErr cs = 0) := by
        have e := HE.out
        rw [List.drop_eq_nil_iff.2 (by omega)] at e
        exact e
      go_wp2
      go_ret
      exact ⟨ret_int HD2.out.symm, HB.out⟩
end Go.Proofs.Ytgphkddcfcmaiaa
