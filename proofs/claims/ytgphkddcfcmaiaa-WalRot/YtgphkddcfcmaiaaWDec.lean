/- Decode of layer 6: a panic of the reader is recovered. -/
import Derived.Test.YtgphkddcfcmaiaaWBat
namespace Go.Proofs.Ytgphkddcfcmaiaa
open Go.RowKit SumPlain
set_option linter.unusedVariables false

set_option maxHeartbeats 1000000 in
theorem batch_bad1 (N : Nat) (l : List Int) (w0 w : World) (h : Rd w0 w N l) (x : Int) (hp : numP 4 l = .error x) :
    Calls Try.prog 51 #[.pointer (some ⟨N, 0, none⟩)] w fun e w' => e = panics x ∧ Hid (w.grownBy w' (some N)) := by
  have HR : Hid (∀ o, Rd w0 (w.alloc o) N l) := fun o => h.up (up_alloc w o)
  clear h
  go_enter Try.func51, Try.ntmps51
  go_wp2_with fail
  refine (number_bad N l w0 _ (HR.out _) x hp).mono ?_
  rintro e w1 ⟨rfl, g1⟩
  unfold panics
  go_wp2
  exact ⟨rfl, rfl, grown_trans (grown_up (up_alloc w _) _) g1.out⟩

set_option maxHeartbeats 1000000 in
theorem batch_bad2 (N : Nat) (l : List Int) (w0 w : World) (h : Rd w0 w N l) (s : Int) (r : List Int) (hp : numP 4 l = .ok (s, r)) (x : Int) (hq : numP 4 r = .error x) :
    Calls Try.prog 51 #[.pointer (some ⟨N, 0, none⟩)] w fun e w' => e = panics x ∧ Hid (w.grownBy w' (some N)) := by
  have HR : Hid (∀ o, Rd w0 (w.alloc o) N l) := fun o => h.up (up_alloc w o)
  have HC1 : Hid (∀ wx, Rd w0 wx N l → Calls Try.prog 59 #[.pointer (some ⟨N, 0, none⟩)] wx fun e w' => e = .returned (.int .i64 s) ∧ Hid (Rd w0 w' N r) ∧ Hid (wx.grownBy w' (some N))) := fun wx hx => number_ok N l w0 wx hx s r hp
  clear h hp
  go_enter Try.func51, Try.ntmps51
  go_wp2_with fail
  refine (HC1.out _ (HR.out _)).mono ?_
  rintro e w1 ⟨rfl, R1, g1⟩
  have G1 : Hid (w.grownBy w1 (some N)) := grown_trans (grown_up (up_alloc w _) _) g1.out
  clear g1
  go_wp2_with fail
  refine (number_bad N r w0 _ (R1.out.up (up_alloc _ _)) x hq).mono ?_
  rintro e w2 ⟨rfl, g2⟩
  unfold panics
  go_wp2
  exact ⟨rfl, rfl, grown_trans (grown_trans G1.out (grown_up (up_alloc _ _) _)) g2.out⟩

set_option maxHeartbeats 1000000 in
theorem batch_many (N : Nat) (l : List Int) (w0 w : World) (h : Rd w0 w N l) (s : Int) (r : List Int) (hp : numP 4 l = .ok (s, r)) (n : Int) (q : List Int) (hq : numP 4 r = .ok (n, q)) (hn : 64 < n) :
    Calls Try.prog 51 #[.pointer (some ⟨N, 0, none⟩)] w fun e w' => e = panics 3 ∧ Hid (w.grownBy w' (some N)) := by
  have HR : Hid (∀ o, Rd w0 (w.alloc o) N l) := fun o => h.up (up_alloc w o)
  have HC1 : Hid (∀ wx, Rd w0 wx N l → Calls Try.prog 59 #[.pointer (some ⟨N, 0, none⟩)] wx fun e w' => e = .returned (.int .i64 s) ∧ Hid (Rd w0 w' N r) ∧ Hid (wx.grownBy w' (some N))) := fun wx hx => number_ok N l w0 wx hx s r hp
  have HC2 : Hid (∀ wx, Rd w0 wx N r → Calls Try.prog 59 #[.pointer (some ⟨N, 0, none⟩)] wx fun e w' => e = .returned (.int .i64 n) ∧ Hid (Rd w0 w' N q) ∧ Hid (wx.grownBy w' (some N))) := fun wx hx => number_ok N r w0 wx hx n q hq
  clear h hp hq
  go_enter Try.func51, Try.ntmps51
  go_wp2_with fail
  refine (HC1.out _ (HR.out _)).mono ?_
  rintro e w1 ⟨rfl, R1, g1⟩
  have G1 : Hid (w.grownBy w1 (some N)) := grown_trans (grown_up (up_alloc w _) _) g1.out
  clear g1
  go_wp2_with fail
  refine (HC2.out _ (R1.out.up (up_alloc _ _))).mono ?_
  rintro e w2 ⟨rfl, R2, g2⟩
  have G2 : Hid (w.grownBy w2 (some N)) := grown_trans (grown_trans G1.out (grown_up (up_alloc _ _) _)) g2.out
  clear g2
  go_wp2
  exact ⟨rfl, rfl, G2⟩

theorem batch_any (N : Nat) (l : List Int) (w0 w : World) (h : Rd w0 w N l) :
    Calls Try.prog 51 #[.pointer (some ⟨N, 0, none⟩)] w fun e w' => BatchEnd w0 w N (batchP 4 l) e w' := by
  have hx : ∀ y ∈ l, 0 ≤ y ∧ y ≤ 255 := by obtain ⟨_, _, _, _, _, h4⟩ := h; exact h4.1
  unfold batchP
  cases hp : numP 4 l with
  | error x =>
    refine (batch_bad1 N l w0 w h x hp).mono ?_
    rintro e w' ⟨rfl, g⟩
    exact ⟨rfl, g.out⟩
  | ok v =>
    obtain ⟨s, r⟩ := v
    simp only
    obtain ⟨_, _, hr⟩ := numP_bounds hx hp
    cases hq : numP 4 r with
    | error x =>
      refine (batch_bad2 N l w0 w h s r hp x hq).mono ?_
      rintro e w' ⟨rfl, g⟩
      exact ⟨rfl, g.out⟩
    | ok v =>
      obtain ⟨n, q⟩ := v
      simp only
      obtain ⟨n0, _, _⟩ := numP_bounds hr hq
      by_cases hn : 64 < n
      · rw [if_pos hn]
        refine (batch_many N l w0 w h s r hp n q hq hn).mono ?_
        rintro e w' ⟨rfl, g⟩
        exact ⟨rfl, g.out⟩
      · rw [if_neg hn]
        obtain ⟨m, rfl⟩ : ∃ m : Nat, n = (m : Int) := ⟨n.toNat, by omega⟩
        rw [Int.toNat_natCast]
        refine (batch_loop N l w0 w h s r hp m q hq (by omega)).mono ?_
        intro e w' hb
        cases hc : chgsP 4 m q with
        | error x => rw [hc] at hb; exact hb
        | ok v => rw [hc] at hb; obtain ⟨cs, t⟩ := v; exact hb

/-! ### the deferred function -/
theorem Try.assert29 (v : Value) (w : World) : (Instr.typeAssert (.iface 29 v) 20 29 false).run Try.prog w = .ok v w := by kernel_rfl

theorem catch_panicking (p : Addr) (x y : Int) (older : List PanicEntry) (w : World) (hc : w.cell? p = some (.int .i64 x)) (hz : w.frozen? p = false) :
    CallsD Try.prog 50 #[.pointer (some p)] (.panicking ({ v := .iface 29 (.int .i64 y), recovered := false } :: older)) w fun e u' w' =>
      e = .returned (.tuple #[]) ∧ u' = .panicking ({ v := .iface 29 (.int .i64 y), recovered := true } :: older) ∧ w' = w.setCell p (.int .i64 y) := by
  refine callsD_of_wpS Try.func50 rfl fun c₀ cs hu => ?_
  apply wpS_seq
  apply wpS_region
  simp [wpOpsS, go_sem, recoverD, hu, Try.ntmps50, Exit.thenS]
  apply wpS_seq
  apply wpS_seq
  apply wpS_region
  simp [wpOpsS, go_sem, Exit.thenS]
  refine wpS_cond (t := false) (by simp [Act.eval, Array.replicate]) ?_
  simp only [Bool.false_eq_true, if_false]
  refine wpS_of_wp (wp_skip ?_)
  simp only [Exit.thenS]
  apply wpS_region
  simp [wpOpsS, go_sem, Try.assert29, hc, hz, bodyPostS, results, Try.results50]

theorem catch_idle (p : Addr) (w : World) :
    CallsD Try.prog 50 #[.pointer (some p)] .returning w fun e u' w' => e = .returned (.tuple #[]) ∧ u' = .returning ∧ w' = w := by
  refine callsD_of_wpS Try.func50 rfl fun c₀ cs hu => ?_
  apply wpS_seq
  apply wpS_region
  simp [wpOpsS, go_sem, recoverD, hu, Try.ntmps50, Exit.thenS]
  apply wpS_seq
  apply wpS_seq
  apply wpS_region
  simp [wpOpsS, go_sem, Exit.thenS]
  refine wpS_cond (t := true) (by simp [Act.eval, Array.replicate]) ?_
  simp only [if_true]
  refine wpS_of_wp (wp_ret ?_)
  cases c₀
  simp_all [bodyPostS, results, Try.results50, Exit.thenS]
end Go.Proofs.Ytgphkddcfcmaiaa
