/- SkipDraws, walked. -/
import Derived.Test.YtmiokopnhkojoaaLAlive
import Derived.Test.YtmiokopnhkojoaaLUp
import Derived.Test.YtmiokopnhkojoaaMOrd
namespace Go.Proofs.Ytmiokopnhkojoaa
open Go.RowKit
set_option linter.unusedVariables false
set_option linter.unusedSimpArgs false

theorem isH_part (d : Nat) : ∀ n, n ≤ 7 → (∃ h, IsH d h) ∨ ∀ j, j < n → (d / 4 ^ j) % 4 = 0
  | 0, _ => .inr (fun j hj => by omega)
  | n + 1, hn => by
    rcases isH_part d n (by omega) with h | h
    · exact .inl h
    · by_cases q : (d / 4 ^ n) % 4 = 0
      · refine .inr (fun j hj => ?_)
        by_cases e : j = n
        · subst e; exact q
        · exact h j (by omega)
      · exact .inl ⟨n + 1, by omega, by omega, fun j hj => h j (by omega), .inr (by simpa using q)⟩
theorem isH_ex (d : Nat) : ∃ h, IsH d h := by
  rcases isH_part d 7 (by omega) with h | h
  · exact h
  · exact ⟨8, by omega, by omega, fun j hj => h j (by omega), .inl rfl⟩
theorem heightP (d h : Nat) (hd : d < 18446744073709551616) (H : IsH d h) (w : World) : Calls Try.prog 21 #[.int .u64 (d : Int)] w fun e w' => e = .returned (.int .i64 (h : Int)) ∧ Below w.heap.size w w' := by
  refine (height_any d hd w).mono ?_
  rintro e w' ⟨h2, rfl, H2, rfl⟩
  rw [H2.out.one H]
  exact ⟨rfl, Below.refl _ _⟩
theorem refHeightP (d h : Nat) (hd : d < 18446744073709551616) (H : IsH d h) (w : World) : Calls Try.prog 22 #[.int .u64 (d : Int)] w fun e w' => e = .returned (.int .i64 (h : Int)) ∧ Below w.heap.size w w' := by
  refine (refHeight_any d hd w).mono ?_
  rintro e w' ⟨h2, rfl, H2, rfl⟩
  rw [H2.out.one H]
  exact ⟨rfl, Below.refl _ _⟩
theorem beforeP (a b : En) (r : Bool) (hr : beforeE a b = r) (w : World) : Calls Try.prog 23 #[.agg #[.string a.key, .int .i64 a.seq, .int .i64 a.kind, .string a.val], .agg #[.string b.key, .int .i64 b.seq, .int .i64 b.kind, .string b.val]] w fun e w' => e = .returned (.bool r) ∧ Below w.heap.size w w' := by
  subst hr
  refine (before_any a b w).mono ?_
  rintro e w' ⟨rfl, rfl⟩
  exact ⟨rfl, up_al (up_al (Below.refl _ _) _) _⟩
theorem refBeforeP (a b : En) (r : Bool) (hr : beforeE a b = r) (w : World) : Calls Try.prog 24 #[.agg #[.string a.key, .int .i64 a.seq, .int .i64 a.kind, .string a.val], .agg #[.string b.key, .int .i64 b.seq, .int .i64 b.kind, .string b.val]] w fun e w' => e = .returned (.bool r) ∧ Below w.heap.size w w' := by
  subst hr
  refine (refBefore_any a b w).mono ?_
  rintro e w' ⟨rfl, rfl⟩
  exact ⟨rfl, up_al (up_al (Below.refl _ _) _) _⟩
theorem aliveP (w : World) : Calls Try.prog 20 #[] w fun e w' => e = .returned (.bool true) ∧ Below w.heap.size w w' := by
  refine (alive_any w).mono ?_
  rintro e w' ⟨rfl, hb⟩
  exact ⟨rfl, hb⟩

set_option maxHeartbeats 4000000 in
set_option maxRecDepth 100000 in
theorem draws_walk (d : Nat) (hd : d < 18446744073709551616) (a b : En) (w : World) :
    Calls Try.prog 4 #[.int .u64 (d : Int), enV a, enV b] w fun e w' => e = .returned (.bool true) ∧ Below w.heap.size w w' := by
  obtain ⟨h, hH⟩ := isH_ex d
  have HH : Hid (IsH d h) := hH
  clear hH
  unfold enV
  obtain ⟨wa, hwa⟩ : ∃ wa, wa = (w.alloc (enObj a)).alloc (enObj b) := ⟨_, rfl⟩
  have HWA : Hid ((w.alloc (.cells #[.string a.key, .int .i64 a.seq, .int .i64 a.kind, .string a.val] 27)).alloc (.cells #[.string b.key, .int .i64 b.seq, .int .i64 b.kind, .string b.val] 27) = wa) := hwa.symm
  have HU : Hid (Below w.heap.size w wa) := by rw [hwa]; exact up_al (up_al (Below.refl _ _) _) _
  have B0 : wa.heap[w.heap.size]? = some (enObj a) := by rw [hwa]; exact blk_up (blk_new _ _) (up_alloc _ _)
  have B1 : wa.heap[w.heap.size + 1]? = some (enObj b) := by
    have := blk_new (w.alloc (enObj a)) (enObj b)
    have e : (w.alloc (enObj a)).heap.size = w.heap.size + 1 := by simp
    rw [e, ← hwa] at this
    exact this
  have p0 := cell_up (show wa.cell? ⟨w.heap.size, 0, none⟩ = some (.string a.key) from blk_cell B0 0 _ rfl)
  have p1 := cell_up (show wa.cell? ⟨w.heap.size, 1, none⟩ = some (.int .i64 a.seq) from blk_cell B0 1 _ rfl)
  have p2 := cell_up (show wa.cell? ⟨w.heap.size, 2, none⟩ = some (.int .i64 a.kind) from blk_cell B0 2 _ rfl)
  have p3 := cell_up (show wa.cell? ⟨w.heap.size, 3, none⟩ = some (.string a.val) from blk_cell B0 3 _ rfl)
  have q0 := cell_up (show wa.cell? ⟨w.heap.size + 1, 0, none⟩ = some (.string b.key) from blk_cell B1 0 _ rfl)
  have q1 := cell_up (show wa.cell? ⟨w.heap.size + 1, 1, none⟩ = some (.int .i64 b.seq) from blk_cell B1 1 _ rfl)
  have q2 := cell_up (show wa.cell? ⟨w.heap.size + 1, 2, none⟩ = some (.int .i64 b.kind) from blk_cell B1 2 _ rfl)
  have q3 := cell_up (show wa.cell? ⟨w.heap.size + 1, 3, none⟩ = some (.string b.val) from blk_cell B1 3 _ rfl)
  clear hwa B0 B1
  cases hab : beforeE a b
  · have HAB : Hid (beforeE a b = false) := hab
    clear hab
    go_enter Try.func4, Try.ntmps4
    go_upto_region 1 with fail
    rw [HWA.out]
    refine wp_region_up (by kernel_rfl) (by kernel_rfl) ?_
    repeat (quiet_step (first
      | (go_at_call 21; refine calls_up (heightP d h hd HH.out _))
      | (go_at_call 22; refine calls_up (refHeightP d h hd HH.out _))
      | (go_at_call 23; refine calls_up (beforeP a b false HAB.out _))
      | (go_at_call 24; refine calls_up (refBeforeP a b false HAB.out _))
      | (go_at_call 20; refine calls_up (aliveP _))))
    refine wpQuiet_nil ?_
    intro _ hw'
    obtain ⟨p, hw''⟩ := hw'
    subst hw''
    go_wp2
    go_ret
    exact ⟨by simp, up_trans HU.out p.up⟩
  · have HAB : Hid (beforeE a b = true) := hab
    have HBA : Hid (beforeE b a = false) := before_asym hab
    clear hab
    go_enter Try.func4, Try.ntmps4
    go_upto_region 1 with fail
    rw [HWA.out]
    refine wp_region_up (by kernel_rfl) (by kernel_rfl) ?_
    repeat (quiet_step (first
      | (go_at_call 21; refine calls_up (heightP d h hd HH.out _))
      | (go_at_call 22; refine calls_up (refHeightP d h hd HH.out _))
      | (go_at_call 23; with_reducible refine calls_up (beforeP a b true HAB.out _))
      | (go_at_call 23; with_reducible refine calls_up (beforeP b a false HBA.out _))
      | (go_at_call 24; refine calls_up (refBeforeP a b true HAB.out _))
      | (go_at_call 20; refine calls_up (aliveP _))))
    refine wpQuiet_nil ?_
    intro _ hw'
    obtain ⟨p, hw''⟩ := hw'
    subst hw''
    go_wp2
    go_ret
    exact ⟨by simp, up_trans HU.out p.up⟩
end Go.Proofs.Ytmiokopnhkojoaa
