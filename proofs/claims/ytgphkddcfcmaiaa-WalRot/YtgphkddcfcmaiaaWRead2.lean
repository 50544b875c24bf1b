/- The reader's numbers and texts. -/
import Derived.Test.YtgphkddcfcmaiaaWRead
namespace Go.Proofs.Ytgphkddcfcmaiaa
open Go.RowKit SumPlain
set_option linter.unusedVariables false

set_option maxHeartbeats 1000000 in
theorem number_bad (N : Nat) (l : List Int) (w0 w : World) (h : Rd w0 w N l) (x : Int) (hp : numP 4 l = .error x) :
    Calls Try.prog 59 #[.pointer (some ⟨N, 0, none⟩)] w fun e w' => e = panics x ∧ Hid (w.grownBy w' (some N)) := by
  obtain ⟨h1, h2, a, c, h3, h4⟩ := h
  have p0 := blk_cell h3 0 _ rfl
  have HV : Hid (Octs w (.slice a l.length c) l) := h4.up h1
  have HG : Hid (∀ d, w.grownBy (w.drewN d) (some N)) := fun d => grown_up (up_drewN w d) _
  have hx := h4.1
  clear h1 h2 h3 h4
  unfold numP at hp
  rcases get_says l hx with hg | hg | ⟨m, j, hg, n0, n1, j1, jl, ho, j9⟩
  · rw [getRet_inj hg] at hp
    simp at hp
    subst hp
    go_enter Try.func59, Try.ntmps59
    go_wp2_with fail
    refine (get_any l _ _ HV.out).mono ?_
    rintro e1 w1 ⟨rfl, d, rfl⟩
    rw [hg]
    go_wp2
    exact ⟨rfl, rfl, HG.out d⟩
  · rw [getRet_inj hg] at hp
    simp at hp
    subst hp
    go_enter Try.func59, Try.ntmps59
    go_wp2_with fail
    refine (get_any l _ _ HV.out).mono ?_
    rintro e1 w1 ⟨rfl, d, rfl⟩
    rw [hg]
    go_wp2
    exact ⟨rfl, rfl, HG.out d⟩
  · rw [getRet_inj hg] at hp
    simp only [if_true] at hp
    by_cases hb : 1099511627776 < m
    · rw [if_pos hb] at hp
      injection hp with hp
      subst hp
      clear ho
      go_enter Try.func59, Try.ntmps59
      go_wp2_with fail
      refine (get_any l _ _ HV.out).mono ?_
      rintro e1 w1 ⟨rfl, d, rfl⟩
      rw [hg]
      clear hg
      go_wp2
      exact ⟨rfl, rfl, HG.out d⟩
    · rw [if_neg hb] at hp
      cases hp

set_option maxHeartbeats 1000000 in
theorem number_ok (N : Nat) (l : List Int) (w0 w : World) (h : Rd w0 w N l) (n : Int) (r : List Int) (hp : numP 4 l = .ok (n, r)) :
    Calls Try.prog 59 #[.pointer (some ⟨N, 0, none⟩)] w fun e w' => e = .returned (.int .i64 n) ∧ Hid (Rd w0 w' N r) ∧ Hid (w.grownBy w' (some N)) := by
  have HR : Hid (Rd w0 w N l) := h
  obtain ⟨h1, h2, a, c, h3, h4⟩ := h
  have HV : Hid (Octs w (.slice a l.length c) l) := h4.up h1
  have HD : Hid (∀ d, (w.drewN d).heap[N]? = some (.cells #[.slice a l.length c] 99)) := fun d => blk_up h3 (up_drewN w d)
  have hx := h4.1
  have p0 := blk_cell h3 0 _ rfl
  clear h1 h2 h3
  unfold numP at hp
  rcases get_says l hx with hg | hg | ⟨m, j, hg, n0, n1, j1, jl, ho, j9⟩
  · rw [getRet_inj hg] at hp
    simp at hp
  · rw [getRet_inj hg] at hp
    simp at hp
  · rw [getRet_inj hg] at hp
    simp only [if_true] at hp
    by_cases hb : 1099511627776 < m
    · rw [if_pos hb] at hp
      cases hp
    · rw [if_neg hb] at hp
      simp only [Int.toNat_natCast, Except.ok.injEq, Prod.mk.injEq] at hp
      obtain ⟨rfl, rfl⟩ := hp
      clear ho
      have gw : IntKind.i64.wrap m = m := by simp [IntKind.wrap, IntKind.bits, IntKind.signed]; omega
      have HG : Hid (∀ d v, w.grownBy ((w.drewN d).setCell ⟨N, 0, none⟩ v) (some N)) := fun d v => grown_trans (grown_up (up_drewN w d) _) (grown_set _ _ _)
      have HS : Hid (∀ d a' c', Octs w0 (.slice a' (l.length - j) c') (l.drop j) → Rd w0 ((w.drewN d).setCell ⟨N, 0, none⟩ (.slice a' (l.length - j) c')) N (l.drop j)) := by
        intro d a' c' ho
        have e : (l.drop j).length = l.length - j := List.length_drop
        rw [← e] at ho ⊢
        exact (HR.out.up (up_drewN w d)).set ho
      rcases h4.form with ⟨rfl, rfl, rfl⟩ | ⟨x, rfl, rfl⟩ | ⟨b, off, rfl, hne, hc, hm⟩
      · simp at jl; omega
      · simp at jl; omega
      · unfold maxLen at hm
        by_cases hcn : c = j
        · obtain rfl : j = l.length := by omega
          obtain rfl : c = l.length := hcn
          simp only [List.drop_length, Nat.sub_self] at HS ⊢
          have HS2 : Hid (∀ d x c, Rd w0 ((w.drewN d).setCell ⟨N, 0, none⟩ (.slice (some x) 0 c)) N []) := fun d x c => HS.out _ _ _ ⟨by simp, .inl ⟨rfl, _, _, rfl, fun e => by cases e⟩⟩
          clear HS h4
          go_enter Try.func59, Try.ntmps59
          go_wp2_with fail
          refine (get_any l _ _ HV.out).mono ?_
          rintro e1 w1 ⟨rfl, d, rfl⟩
          rw [hg]
          have q0 := blk_cell (HD.out d) 0 _ rfl
          have z0 := blk_frozen (HD.out d) 0
          clear hg p0
          go_wp2
          go_ret
          exact ⟨rfl, HS2.out _ _ _, HG.out _ _⟩
        · have HS2 : Hid (∀ d, Rd w0 ((w.drewN d).setCell ⟨N, 0, none⟩ (.slice (some ⟨b, off + j, none⟩) (l.length - j) (c - j))) N (l.drop j)) := fun d => HS.out _ _ _ (octs_rest h4 jl hc)
          clear HS h4
          go_enter Try.func59, Try.ntmps59
          go_wp2_with fail
          refine (get_any l _ _ HV.out).mono ?_
          rintro e1 w1 ⟨rfl, d, rfl⟩
          rw [hg]
          have q0 := blk_cell (HD.out d) 0 _ rfl
          have z0 := blk_frozen (HD.out d) 0
          clear hg p0
          go_wp2
          go_ret
          exact ⟨rfl, HS2.out _, HG.out _ _⟩

theorem numP_bounds {x : Int} {l : List Int} (hx : ∀ y ∈ l, 0 ≤ y ∧ y ≤ 255) {n : Int} {r : List Int} (h : numP x l = .ok (n, r)) : 0 ≤ n ∧ n ≤ 1099511627776 ∧ ∀ y ∈ r, 0 ≤ y ∧ y ≤ 255 := by
  obtain ⟨h1, h2, h3, _⟩ := numP_again hx h
  exact ⟨h1, h2, all_tail hx h3⟩

set_option maxHeartbeats 1000000 in
theorem text_bad (N : Nat) (l : List Int) (w0 w : World) (h : Rd w0 w N l) (x : Int) (hp : textP 4 l = .error x) :
    Calls Try.prog 68 #[.pointer (some ⟨N, 0, none⟩)] w fun e w' => e = panics x ∧ Hid (w.grownBy w' (some N)) := by
  have HR : Hid (Rd w0 w N l) := h
  have hx : ∀ y ∈ l, 0 ≤ y ∧ y ≤ 255 := by obtain ⟨_, _, _, _, _, h4⟩ := h; exact h4.1
  clear h
  unfold textP at hp
  cases hq : numP 4 l with
  | error y =>
    rw [hq] at hp
    injection hp with hp
    subst hp
    go_enter Try.func68, Try.ntmps68
    go_wp2_with fail
    refine (number_bad N l w0 w HR.out _ hq).mono ?_
    rintro e w1 ⟨rfl, g1⟩
    unfold panics
    go_wp2
    exact ⟨rfl, rfl, g1⟩
  | ok v =>
    rw [hq] at hp
    obtain ⟨n, r⟩ := v
    obtain ⟨n0, n1, hr⟩ := numP_bounds hx hq
    simp only at hp
    by_cases h5 : 65536 < n
    · rw [if_pos h5] at hp
      injection hp with hp
      subst hp
      clear hx hr
      have HC : Hid (Calls Try.prog 59 #[.pointer (some ⟨N, 0, none⟩)] w fun e w' => e = .returned (.int .i64 n) ∧ Hid (Rd w0 w' N r) ∧ Hid (w.grownBy w' (some N))) := number_ok N l w0 w HR.out n r hq
      clear hq
      go_enter Try.func68, Try.ntmps68
      go_wp2_with fail
      refine HC.out.mono ?_
      rintro e w1 ⟨rfl, R1, g1⟩
      go_wp2
      exact ⟨rfl, rfl, g1⟩
    · rw [if_neg h5] at hp
      by_cases h6 : (r.length : Int) < n
      · rw [if_pos h6] at hp
        injection hp with hp
        subst hp
        obtain ⟨m, rfl⟩ : ∃ m : Nat, n = (m : Int) := ⟨n.toNat, by omega⟩
        clear hx hr
        have HC : Hid (Calls Try.prog 59 #[.pointer (some ⟨N, 0, none⟩)] w fun e w' => e = .returned (.int .i64 (m : Int)) ∧ Hid (Rd w0 w' N r) ∧ Hid (w.grownBy w' (some N))) := number_ok N l w0 w HR.out m r hq
        clear hq
        go_enter Try.func68, Try.ntmps68
        go_wp2_with fail
        refine HC.out.mono ?_
        rintro e w1 ⟨rfl, R1, g1⟩
        go_wp2_with fail
        refine (take_bad N m r w0 w1 R1.out (by omega) (by omega)).mono ?_
        rintro e w2 ⟨rfl, rfl⟩
        unfold panics
        go_wp2
        exact ⟨rfl, rfl, g1⟩
      · rw [if_neg h6] at hp
        cases hp

set_option maxHeartbeats 1000000 in
theorem text_ok (N : Nat) (l : List Int) (w0 w : World) (h : Rd w0 w N l) (s : ByteArray) (q : List Int) (hp : textP 4 l = .ok (s, q)) :
    Calls Try.prog 68 #[.pointer (some ⟨N, 0, none⟩)] w fun e w' => e = .returned (.string s) ∧ Hid (Rd w0 w' N q) ∧ Hid (w.grownBy w' (some N)) := by
  have HR : Hid (Rd w0 w N l) := h
  have hx : ∀ y ∈ l, 0 ≤ y ∧ y ≤ 255 := by obtain ⟨_, _, _, _, _, h4⟩ := h; exact h4.1
  clear h
  unfold textP at hp
  cases hq : numP 4 l with
  | error y =>
    rw [hq] at hp
    cases hp
  | ok v =>
    rw [hq] at hp
    obtain ⟨n, r⟩ := v
    obtain ⟨n0, n1, hr⟩ := numP_bounds hx hq
    simp only at hp
    by_cases h5 : 65536 < n
    · rw [if_pos h5] at hp
      cases hp
    · rw [if_neg h5] at hp
      by_cases h6 : (r.length : Int) < n
      · rw [if_pos h6] at hp
        cases hp
      · rw [if_neg h6] at hp
        simp only [Except.ok.injEq, Prod.mk.injEq] at hp
        obtain ⟨m, rfl⟩ : ∃ m : Nat, n = (m : Int) := ⟨n.toNat, by omega⟩
        rw [Int.toNat_natCast] at hp
        obtain ⟨rfl, rfl⟩ := hp
        clear hx hr
        have HC : Hid (Calls Try.prog 59 #[.pointer (some ⟨N, 0, none⟩)] w fun e w' => e = .returned (.int .i64 (m : Int)) ∧ Hid (Rd w0 w' N r) ∧ Hid (w.grownBy w' (some N))) := number_ok N l w0 w HR.out m r hq
        clear hq
        go_enter Try.func68, Try.ntmps68
        go_wp2_with fail
        refine HC.out.mono ?_
        rintro e w1 ⟨rfl, R1, g1⟩
        go_wp2_with fail
        refine (take_ok N m r w0 w1 R1.out (by omega) (by omega)).mono ?_
        rintro e w2 ⟨a2, c2, rfl, O2, R2, g2⟩
        have hk := run_convert_octs _ _ _ (O2.out.up R2.out.1)
        go_wp2
        go_ret
        exact ⟨rfl, R2, grown_trans g1.out g2.out⟩
end Go.Proofs.Ytgphkddcfcmaiaa
