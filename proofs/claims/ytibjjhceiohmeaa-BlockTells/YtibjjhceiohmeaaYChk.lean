/- The program's Check of layer 9. -/
import Derived.Test.YtibjjhceiohmeaaYMay
import Derived.Test.YtibjjhceiohmeaaNG
namespace Go.Proofs.Ytibjjhceiohmeaa
open Go.RowKit SumPlain
set_option linter.unusedVariables false
set_option linter.unusedSimpArgs false

theorem beforeP (a b : En) (x : Bool) (h : beforeE a b = x) (w : World) : Calls Try.prog 39 #[enV a, enV b] w fun e w' => e = .returned (.bool x) ∧ Below w.heap.size w w' := by
  refine (before_any a b w).mono ?_
  rintro e w' ⟨rfl, rfl⟩
  exact ⟨by rw [h], up_al (up_alloc _ _) _⟩

set_option maxHeartbeats 2000000 in
set_option maxRecDepth 100000 in
theorem checkP_any (l : List En) (v : Value) (w : World) (hv : EntsR w v l) :
    Calls Try.prog 20 #[v] w fun e w' => e = .returned (.int .i64 (chkB l)) ∧ Hid (Below w.heap.size w w') := by
  have HV : Hid (EntsR w v l) := hv
  obtain ⟨a, c, rfl, hc, hm⟩ := hv.len
  have hl63 : l.length ≤ 9223372036854775807 := by unfold maxLen at hm; omega
  clear hv
  by_cases c1 : l.length < 1
  · have c1' : (l.length : Int) < 1 := by omega
    have HC : Hid ((3 : Int) = chkB l) := by unfold Hid chkB; rw [if_pos (.inl c1)]
    go_enter Try.func20, Try.ntmps20
    go_wp2
    go_ret
    exact ⟨ret_int HC.out, Below.refl _ _⟩
  have c1' : ¬ (l.length : Int) < 1 := by omega
  by_cases c2 : 64 < l.length
  · have c2' : (64 : Int) < (l.length : Int) := by omega
    have HC : Hid ((3 : Int) = chkB l) := by unfold Hid chkB; rw [if_pos (.inr c2)]
    go_enter Try.func20, Try.ntmps20
    go_wp2
    go_ret
    exact ⟨ret_int HC.out, Below.refl _ _⟩
  have c2' : ¬ (64 : Int) < (l.length : Int) := by omega
  have HC : Hid (chkB l = ordE none l) := by unfold Hid chkB; rw [if_neg (by omega)]
  go_enter Try.func20, Try.ntmps20
  go_wp2_with fail
  go_loopw [15] (fun i wr => ∃ k : Nat, k ≤ l.length ∧ i = .int .i64 k ∧ Hid (chkB l = ordE (prevE l k) (l.drop k)) ∧ Hid (Below w.heap.size w wr)) (fun i _ => l.length - (intOf i).toNat)
  case atStart => exact ⟨0, Nat.zero_le _, rfl, HC, Below.refl _ _⟩
  case round =>
    obtain ⟨k, hk, rfl, HK, HB⟩ := hrel
    clear HC
    by_cases hlt : k < l.length
    · have hlt' : (k : Int) < (l.length : Int) := by omega
      obtain ⟨b, off, cap, x, e, hx, z0, z1, z2, z3⟩ := (HV.out.up HB.out).at k hlt
      simp at e
      obtain ⟨rfl, rfl⟩ := e
      have HO : Hid (ordE (prevE l k) (l.drop k) = if mayE x then (if aheadE (prevE l k) x then ordE (prevE l (k + 1)) (l.drop (k + 1)) else 81) else 1) := ordE_at l k x hx
      have HX : Hid (l[k]? = some x) := hx
      clear hx
      have HMY : Hid (∀ W : World, Calls Try.prog 38 #[.agg #[.string x.key, .int .i64 x.seq, .int .i64 x.kind, .string x.val]] W fun e w' => e = .returned (.bool (mayE x)) ∧ Hid (Below W.heap.size W w')) := fun W => mayP_any x W
      have UB : Hid (Below wr.heap.size wr (wr.alloc (enObj x))) := up_alloc _ _
      have BX : Hid (BoxN (wr.alloc (enObj x)) wr.heap.size x) := blk_new _ _
      unfold enObj at UB BX
      cases hmy : mayE x
      · rw [hmy] at HMY
        have HR : Hid (chkB l = 1) := by unfold Hid; rw [HK.out, HO.out, hmy]; rfl
        go_wp2_with fail
        refine (HMY.out _).mono ?_
        rintro e w1 ⟨rfl, u1⟩
        go_wp2_with fail
        go_ret
        exact ⟨ret_int HR.out.symm, up_trans HB.out (up_trans UB.out u1.out)⟩
      · rw [hmy] at HMY
        go_wp2_with fail
        refine (HMY.out _).mono ?_
        rintro e w1 ⟨rfl, u1⟩
        have HB1 : Hid (Below w.heap.size w w1) := up_trans HB.out (up_trans UB.out u1.out)
        have BX1 : Hid (BoxN w1 wr.heap.size x) := BX.out.up u1.out
        clear UB BX u1 z0 z1 z2 z3 HMY
        by_cases h0 : k = 0
        · subst h0
          have HR : Hid (chkB l = ordE (prevE l (0 + 1)) (l.drop (0 + 1))) := by unfold Hid; rw [HK.out, HO.out, hmy]; rfl
          go_wp2_with fail
          go_quiet (fail)
          go_wp2_with fail
          exact ⟨⟨1, by omega, by go_num, HR, up_trans HB1.out (up_drewN _ _)⟩, by simp [intOf]; omega⟩
        · obtain ⟨j, hj⟩ : ∃ j, k = j + 1 := ⟨k - 1, by omega⟩
          obtain ⟨b2, off2, cap2, y, e2, hy, t0, t1, t2, t3⟩ := (HV.out.up HB1.out).at j (by omega)
          simp at e2
          obtain ⟨⟨rfl, rfl⟩, rfl⟩ := e2
          have hjj : (k : Int) - 1 = (j : Int) := by omega
          have hj0 : 0 < k := by omega
          have hwj : IntKind.i64.wrap (j : Int) = (j : Int) := by rw [IntKind.wrap_i64]; omega
          have hjl : (j : Int) < (l.length : Int) := by omega
          have hpe : prevE l k = some y := by unfold prevE; rw [if_neg (by omega), hj]; exact hy
          have HAH : Hid (aheadE (prevE l k) x = beforeE y x) := by unfold Hid aheadE; rw [hpe]
          clear hj
          obtain ⟨m0, m1, m2, m3⟩ := BX1.out.cells
          clear hy hpe BX1
          generalize wr.heap.size = NX at *
          have m0 := cell_up m0
          have m1 := cell_up m1
          have m2 := cell_up m2
          have m3 := cell_up m3
          have n0 := cell_up t0
          have n1 := cell_up t1
          have n2 := cell_up t2
          have n3 := cell_up t3
          have HQ : Hid (∀ x', beforeE y x = x' → ∀ W : World, Calls Try.prog 39 #[.agg #[.string y.key, .int .i64 y.seq, .int .i64 y.kind, .string y.val], .agg #[.string x.key, .int .i64 x.seq, .int .i64 x.kind, .string x.val]] W fun e w' => e = .returned (.bool x') ∧ Below W.heap.size W w') := fun x' h W => beforeP y x x' h W
          cases hbf : beforeE y x
          · have HR : Hid (chkB l = 81) := by unfold Hid; rw [HK.out, HO.out, hmy, HAH.out, hbf]; rfl
            have HQ2 := hid (HQ.out false hbf)
            clear HQ hbf
            go_wp2_with fail
            refine wp_region_up (by kernel_rfl) (by kernel_rfl) ?_
            repeat (quiet_step (first | (go_at_call 39; refine calls_up (HQ2.out _))))
            refine wpQuiet_nil ?_
            intro _ hw'
            obtain ⟨p, hw''⟩ := hw'
            subst hw''
            go_wp2_with fail
            go_ret
            exact ⟨ret_int HR.out.symm, up_trans HB1.out p.up⟩
          · have HR : Hid (chkB l = ordE (prevE l (k + 1)) (l.drop (k + 1))) := by unfold Hid; rw [HK.out, HO.out, hmy, HAH.out, hbf]; rfl
            have HQ2 := hid (HQ.out true hbf)
            clear HQ hbf
            go_wp2_with fail
            refine wp_region_up (by kernel_rfl) (by kernel_rfl) ?_
            repeat (quiet_step (first | (go_at_call 39; refine calls_up (HQ2.out _))))
            refine wpQuiet_nil ?_
            intro _ hw'
            obtain ⟨p, hw''⟩ := hw'
            subst hw''
            go_wp2_with fail
            exact ⟨⟨k + 1, by omega, by go_num, HR, up_trans HB1.out p.up⟩, by simp [intOf]; omega⟩
    · have hlt' : ¬ (k : Int) < (l.length : Int) := by omega
      obtain rfl : k = l.length := by omega
      go_wp2_with fail
      go_ret
      refine ⟨ret_int ?_, HB.out⟩
      rw [HK.out, List.drop_length]
      rfl
end Go.Proofs.Ytibjjhceiohmeaa
