/- The program's Check of layer 13: first what may not stand, then what stands wrong. -/
import Derived.Test.YtfnddbglopoghaaYMay
import Derived.Test.YtfnddbglopoghaaNMath
import Derived.Test.YtfnddbglopoghaaLUp
import Derived.Test.YtfnddbglopoghaaLEnts
import Derived.Deep.QuietTactic
import Derived.BigQuiet
namespace Go.Proofs.Ytfnddbglopoghaa
open Go.RowKit
set_option linter.unusedVariables false
set_option linter.unusedSimpArgs false

def ascB : List En → Bool
  | x :: y :: r => beforeE x y && ascB (y :: r)
  | _ => true
theorem ascB_iff : ∀ l : List En, ascB l = true ↔ Asc l
  | [] => by simp [ascB, Asc]
  | [x] => by simp [ascB, Asc]
  | x :: y :: r => by
    unfold ascB
    rw [Bool.and_eq_true, ascB_iff (y :: r)]
    constructor
    · rintro ⟨h1, h2⟩
      refine List.pairwise_cons.2 ⟨fun z hz => ?_, h2⟩
      rcases List.mem_cons.1 hz with rfl | hz
      · exact h1
      · exact bef_trans h1 ((List.pairwise_cons.1 h2).1 z hz)
    · intro h
      exact ⟨(List.pairwise_cons.1 h).1 y List.mem_cons_self, (List.pairwise_cons.1 h).2⟩
theorem ascB_at : ∀ l : List En, (∀ i x y, l[i]? = some x → l[i + 1]? = some y → beforeE x y = true) → ascB l = true
  | [], _ => rfl
  | [x], _ => rfl
  | x :: y :: r, h => by
    unfold ascB
    rw [Bool.and_eq_true]
    exact ⟨h 0 x y rfl rfl, ascB_at (y :: r) (fun i a b ha hb => h (i + 1) a b (by simpa using ha) (by simpa using hb))⟩
theorem ascB_not {l : List En} {i : Nat} {x y : En} (hx : l[i]? = some x) (hy : l[i + 1]? = some y) (h : beforeE x y = false) : ascB l = false := by
  cases q : ascB l with
  | false => rfl
  | true =>
    have ha := (ascB_iff l).1 q
    have h1 := List.getElem?_eq_some_iff.1 hx
    have h2 := List.getElem?_eq_some_iff.1 hy
    have := List.pairwise_iff_getElem.1 ha i (i + 1) h1.1 h2.1 (by omega)
    rw [h1.2, h2.2, h] at this
    cases this
/-- What Check tells. -/
def chkP (l : List En) : Int := if l.all mayE = true then (if ascB l = true then 0 else 81) else 1
theorem chkP_iff (l : List En) : chkP l = 0 ↔ ordL l = 0 := by
  rw [ord_iff]
  unfold chkP
  by_cases h : l.all mayE = true
  · rw [if_pos h]
    by_cases k : ascB l = true
    · rw [if_pos k]
      exact ⟨fun _ => ⟨fun x hx => List.all_eq_true.1 h x hx, (ascB_iff l).1 k⟩, fun _ => rfl⟩
    · rw [if_neg k]
      constructor
      · intro q; cases q
      · rintro ⟨_, q⟩; exact absurd ((ascB_iff l).2 q) k
  · rw [if_neg h]
    constructor
    · intro q; cases q
    · rintro ⟨q, _⟩; exact absurd (List.all_eq_true.2 q) h
theorem chkP_nine (l : List En) : 0 ≤ chkP l ∧ chkP l ≤ 81 := by
  unfold chkP
  split
  · split <;> omega
  · omega
theorem beforeP (a b : En) (x : Bool) (h : beforeE a b = x) (w : World) : Calls Try.prog 37 #[enV a, enV b] w fun e w' => e = .returned (.bool x) ∧ Below w.heap.size w w' := by
  refine (before_any a b w).mono ?_
  rintro e w' ⟨rfl, rfl⟩
  exact ⟨by rw [h], up_al (up_alloc _ _) _⟩

set_option maxHeartbeats 2000000 in
set_option maxRecDepth 100000 in
theorem mcheck_any (l : List En) (v : Value) (w : World) (hv : EntsR w v l) :
    Calls Try.prog 21 #[v] w fun e w' => e = .returned (.int .i64 (chkP l)) ∧ Hid (Below w.heap.size w w') := by
  have HV : Hid (EntsR w v l) := hv
  obtain ⟨a, c, rfl, hc, hm⟩ := hv.len
  have hl63 : l.length ≤ 9223372036854775807 := by unfold maxLen at hm; omega
  clear hv
  go_enter Try.func21, Try.ntmps21
  go_wp2_with fail
  go_loopw [8] (fun i wr => ∃ k : Nat, k ≤ l.length ∧ i = .int .i64 k ∧ Hid (∀ x ∈ l.take k, mayE x = true) ∧ Hid (Below w.heap.size w wr)) (fun i _ => l.length - (intOf i).toNat)
  case atStart => exact ⟨0, Nat.zero_le _, rfl, (fun x hx => by simp at hx), Below.refl _ _⟩
  case round =>
    obtain ⟨k, hk, rfl, HK, HB⟩ := hrel
    by_cases hlt : k < l.length
    · have hlt' : (k : Int) < (l.length : Int) := by omega
      obtain ⟨b, off, cap, x, e, hx, z0, z1, z2, z3⟩ := (HV.out.up HB.out).at k hlt
      simp at e
      obtain ⟨rfl, rfl⟩ := e
      have HX : Hid (l[k]? = some x) := hx
      clear hx
      have HMY : Hid (∀ W : World, Calls Try.prog 36 #[.agg #[.string x.key, .int .i64 x.seq, .int .i64 x.kind, .string x.val]] W fun e w' => e = .returned (.bool (mayE x)) ∧ Hid (Below W.heap.size W w')) := fun W => mayP_any x W
      have UB : Hid (Below wr.heap.size wr (wr.alloc (enObj x))) := up_alloc _ _
      unfold enObj at UB
      cases hmy : mayE x
      · rw [hmy] at HMY
        have HR : Hid (chkP l = 1) := by
          unfold Hid chkP
          rw [if_neg]
          intro q
          rw [List.all_eq_true.1 q x (List.mem_of_getElem? HX.out)] at hmy
          cases hmy
        go_wp2_with fail
        refine (HMY.out _).mono ?_
        rintro e w1 ⟨rfl, u1⟩
        go_wp2_with fail
        go_ret
        exact ⟨ret_int HR.out.symm, up_trans HB.out (up_trans UB.out u1.out)⟩
      · rw [hmy] at HMY
        have HR : Hid (∀ y ∈ l.take (k + 1), mayE y = true) := by
          intro y hy
          rw [List.take_add_one, HX.out] at hy
          rcases List.mem_append.1 hy with q | q
          · exact HK.out y q
          · simp at q
            rw [q]
            exact hmy
        go_wp2_with fail
        refine (HMY.out _).mono ?_
        rintro e w1 ⟨rfl, u1⟩
        go_wp2_with fail
        exact ⟨⟨k + 1, by omega, by go_num, HR, up_trans HB.out (up_trans UB.out u1.out)⟩, by simp [intOf]; omega⟩
    · have hlt' : ¬ (k : Int) < (l.length : Int) := by omega
      obtain rfl : k = l.length := by omega
      have HALL : Hid (l.all mayE = true) := by
        have := HK.out
        rw [List.take_length] at this
        exact List.all_eq_true.2 this
      have HB0 := HB
      clear HB HK
      go_wp2_with fail
      go_loopw [5] (fun i wr => ∃ k : Nat, 1 ≤ k ∧ i = .int .i64 k ∧ (k ≤ l.length ∨ k = 1) ∧ Hid (∀ i x y, i + 1 < k → l[i]? = some x → l[i + 1]? = some y → beforeE x y = true) ∧ Hid (Below w.heap.size w wr)) (fun i _ => l.length + 1 - (intOf i).toNat)
      case atStart => exact ⟨1, Nat.le_refl _, rfl, .inr rfl, (fun i x y h => by omega), HB0⟩
      case round =>
        obtain ⟨k, hk1, rfl, hk2, HK, HB⟩ := hrel
        clear HB0
        by_cases hlt : k < l.length
        · have hlt' : (k : Int) < (l.length : Int) := by omega
          obtain ⟨j, hj⟩ : ∃ j, k = j + 1 := ⟨k - 1, by omega⟩
          obtain ⟨b, off, cap, x, e, hx, z0, z1, z2, z3⟩ := (HV.out.up HB.out).at j (by omega)
          obtain ⟨b2, off2, cap2, y, e2, hy, t0, t1, t2, t3⟩ := (HV.out.up HB.out).at k hlt
          simp at e e2
          obtain ⟨rfl, rfl⟩ := e
          obtain ⟨⟨rfl, rfl⟩, rfl⟩ := e2
          have hjj : (k : Int) - 1 = (j : Int) := by omega
          have hwj : IntKind.i64.wrap (j : Int) = (j : Int) := by rw [IntKind.wrap_i64]; omega
          have hjl : (j : Int) < (l.length : Int) := by omega
          have HX : Hid (l[j]? = some x) := hx
          have HY : Hid (l[j + 1]? = some y) := by rw [hj] at hy; exact hy
          have HJ : Hid (k = j + 1) := hj
          clear hx hy hj
          have m0 := cell_up z0
          have m1 := cell_up z1
          have m2 := cell_up z2
          have m3 := cell_up z3
          have n0 := cell_up t0
          have n1 := cell_up t1
          have n2 := cell_up t2
          have n3 := cell_up t3
          have HQ : Hid (∀ x', beforeE x y = x' → ∀ W : World, Calls Try.prog 37 #[.agg #[.string x.key, .int .i64 x.seq, .int .i64 x.kind, .string x.val], .agg #[.string y.key, .int .i64 y.seq, .int .i64 y.kind, .string y.val]] W fun e w' => e = .returned (.bool x') ∧ Below W.heap.size W w') := fun x' h W => beforeP x y x' h W
          cases hbf : beforeE x y
          · have HR : Hid (chkP l = 81) := by
              unfold Hid chkP
              rw [if_pos HALL.out, if_neg]
              rw [ascB_not HX.out HY.out hbf]
              decide
            have HQ2 := hid (HQ.out false hbf)
            clear HQ hbf
            go_wp2_with fail
            refine wp_region_up (by kernel_rfl) (by kernel_rfl) ?_
            repeat (quiet_step (first | (go_at_call 37; refine calls_up (HQ2.out _))))
            refine wpQuiet_nil ?_
            intro _ hw'
            obtain ⟨p, hw''⟩ := hw'
            subst hw''
            go_wp2_with fail
            go_ret
            exact ⟨ret_int HR.out.symm, up_trans HB.out p.up⟩
          · have HR : Hid (∀ i x y, i + 1 < k + 1 → l[i]? = some x → l[i + 1]? = some y → beforeE x y = true) := by
              intro i a b hi ha hb
              by_cases q : i = j
              · subst q
                rw [HX.out] at ha
                rw [HY.out] at hb
                cases ha
                cases hb
                exact hbf
              · exact HK.out i a b (by have := HJ.out; omega) ha hb
            have HQ2 := hid (HQ.out true hbf)
            clear HQ hbf
            go_wp2_with fail
            refine wp_region_up (by kernel_rfl) (by kernel_rfl) ?_
            repeat (quiet_step (first | (go_at_call 37; refine calls_up (HQ2.out _))))
            refine wpQuiet_nil ?_
            intro _ hw'
            obtain ⟨p, hw''⟩ := hw'
            subst hw''
            go_wp2_with fail
            exact ⟨⟨k + 1, by omega, by go_num, .inl (by omega), HR, up_trans HB.out p.up⟩, by simp [intOf]; omega⟩
        · have hlt' : ¬ (k : Int) < (l.length : Int) := by omega
          have HR : Hid (chkP l = 0) := by
            unfold Hid chkP
            rw [if_pos HALL.out, if_pos]
            refine ascB_at l (fun i x y hx hy => HK.out i x y ?_ hx hy)
            have := (List.getElem?_eq_some_iff.1 hy).1
            omega
          go_wp2_with fail
          go_ret
          exact ⟨ret_int HR.out.symm, HB.out⟩
end Go.Proofs.Ytfnddbglopoghaa
