
import Derived.Test.YtnchjlimkgbfpaaGreatDoorE26
import Derived.Test.YtnchjlimkgbfpaaGreatDoorE23
namespace Go.Proofs.YtnchjlimkgbfpaaGreatDoor
open Go.RowKit SumPlain
set_option linter.unusedVariables false
theorem refTake_err (N : Nat) (X : List Int) (a : Option Addr) (c k : Nat) (y m : Int) (w0 w : World) (h : RQ w0 w N X a c k y) (hy : y ≠ 0) :
    Calls Tryz.prog 140 #[.pointer (some ⟨N, 0, none⟩), .int .i64 m] w fun e w' => e = .returned (.slice none 0 0) ∧ w' = w := by
  have p2 : w.cell? ⟨N, 2, none⟩ = some (.int .i64 y) := blk_cell h.blk 2 _ rfl
  have y1 : (y == 0) = false := by simp [hy]
  have y2 : (y != 0) = true := by simp [hy]
  clear h
  go_enter Tryz.func140, Tryz.ntmps140
  go_wp2
  go_ret
  exact ⟨rfl, rfl⟩
set_option maxHeartbeats 1000000 in
theorem refTake_short (N : Nat) (X : List Int) (a : Option Addr) (c k : Nat) (m : Nat) (w0 w : World) (h : RQ w0 w N X a c k 0) (hm : X.length - k < m) (hm2 : m ≤ 65536) :
    Calls Tryz.prog 140 #[.pointer (some ⟨N, 0, none⟩), .int .i64 m] w fun e w' => e = .returned (.slice none 0 0) ∧ Hid (RQ w0 w' N X a c k 8) ∧ Hid (w.grownBy w' (some N)) := by
  have p0 : w.cell? ⟨N, 0, none⟩ = some (.slice a X.length c) := blk_cell h.blk 0 _ rfl
  have p1 : w.cell? ⟨N, 1, none⟩ = some (.int .i64 (k : Int)) := blk_cell h.blk 1 _ rfl
  have p2 : w.cell? ⟨N, 2, none⟩ = some (.int .i64 0) := blk_cell h.blk 2 _ rfl
  have z2 := blk_frozen h.blk 2
  have hk := h.le
  have hxl := h.xl
  have gw : IntKind.i64.wrap ((X.length : Int) - (k : Int)) = (X.length : Int) - (k : Int) := wrap64_id _ (by omega) (by omega)
  have gl : (X.length : Int) - (k : Int) < (m : Int) := by omega
  have HS : Hid (∀ d, RQ w0 ((w.drewN d).setCell ⟨N, 2, none⟩ (.int .i64 8)) N X a c k 8) := fun d => (h.upw (up_drewN w d)).setErr 8
  have HG : Hid (∀ d, w.grownBy ((w.drewN d).setCell ⟨N, 2, none⟩ (.int .i64 8)) (some N)) := fun d => grown_trans (grown_up (up_drewN w d) _) (grown_set _ _ _)
  clear h
  go_enter Tryz.func140, Tryz.ntmps140
  go_wp2_with fail
  go_quiet (fail)
  go_wp2
  go_ret
  exact ⟨rfl, HS.out _, HG.out _⟩
theorem octs_mid {w : World} {b off c k m : Nat} {X : List Int} (h : Octs w (.slice (some ⟨b, off, none⟩) X.length c) X) (hk : k + m ≤ X.length) (hc : X.length ≤ c) : Octs w (.slice (some ⟨b, off + k, none⟩) m (c - k)) ((X.drop k).take m) := by
  have h1 := octs_drop h (n := k) (by omega) hc
  have e : (X.drop k).length = X.length - k := List.length_drop
  have h2 := h1.cut e.symm m (by omega)
  exact h2
set_option maxHeartbeats 2000000 in
theorem refTake_ok (N : Nat) (X : List Int) (a : Option Addr) (c k m : Nat) (w0 w : World) (h : RQ w0 w N X a c k 0) (hm : k + m ≤ X.length) (hm2 : m ≤ 65536) :
    Calls Tryz.prog 140 #[.pointer (some ⟨N, 0, none⟩), .int .i64 m] w fun e w' => ∃ a' c', e = .returned (.slice a' m c') ∧ Hid (OwnB w' w.heap.size (.slice a' m c') ((X.drop k).take m)) ∧ Hid (RQ w0 w' N X a c (k + m) 0) ∧ Hid (w.grownBy w' (some N)) := by
  have p0 : w.cell? ⟨N, 0, none⟩ = some (.slice a X.length c) := blk_cell h.blk 0 _ rfl
  have p1 : w.cell? ⟨N, 1, none⟩ = some (.int .i64 (k : Int)) := blk_cell h.blk 1 _ rfl
  have p2 : w.cell? ⟨N, 2, none⟩ = some (.int .i64 0) := blk_cell h.blk 2 _ rfl
  have z1 := blk_frozen h.blk 1
  have hxl := h.xl
  have gw : IntKind.i64.wrap ((X.length : Int) - (k : Int)) = (X.length : Int) - (k : Int) := wrap64_id _ (by omega) (by omega)
  have gl : ¬ (X.length : Int) - (k : Int) < (m : Int) := by omega
  have gs : IntKind.i64.wrap ((k : Int) + (m : Int)) = (k : Int) + (m : Int) := wrap64_id _ (by omega) (by omega)
  have gd : IntKind.i64.wrap ((k : Int) + (m : Int) - (m : Int)) = (k : Int) := by rw [Int.add_sub_cancel]; exact wrap64_id _ (by omega) (by omega)
  have gk : IntKind.i64.wrap (k : Int) = (k : Int) := wrap64_id _ (by omega) (by omega)
  have gk0 : (0 : Int) ≤ (k : Int) := by omega
  have gkm : (k : Int) ≤ (k : Int) + (m : Int) := by omega
  have gkm0 : (0 : Int) ≤ (k : Int) + (m : Int) := by omega
  have gtn : ((k : Int) + (m : Int)).toNat - k = m := by omega
  have gtm : ((k : Int) + (m : Int)).toNat = k + m := by omega
  have HR : Hid (∀ d, RQ w0 ((w.drewN d).setCell ⟨N, 1, none⟩ (.int .i64 ((k : Int) + (m : Int)))) N X a c (k + m) 0) := fun d => by
    have := (h.upw (up_drewN w d)).setAt (k + m) hm
    rw [Int.natCast_add] at this
    exact this
  have HG : Hid (∀ d, w.grownBy ((w.drewN d).setCell ⟨N, 1, none⟩ (.int .i64 ((k : Int) + (m : Int)))) (some N)) := fun d => grown_trans (grown_up (up_drewN w d) _) (grown_set _ _ _)
  have h4 : Octs w0 (.slice a X.length c) X := h.octs
  have hX := h4.1
  clear h
  go_enter Tryz.func140, Tryz.ntmps140
  go_wp2_with fail
  go_quiet (fail)
  go_wp2_with fail
  have HR2 : Hid (RQ w0 ((w.drewN nq).setCell ⟨N, 1, none⟩ (.int .i64 ((k : Int) + (m : Int)))) N X a c (k + m) 0) := HR.out nq
  have HG2 : Hid (w.grownBy ((w.drewN nq).setCell ⟨N, 1, none⟩ (.int .i64 ((k : Int) + (m : Int)))) (some N)) := HG.out nq
  generalize (w.drewN nq).setCell ⟨N, 1, none⟩ (.int .i64 ((k : Int) + (m : Int))) = w2 at *
  have x0 : w2.cell? ⟨N, 0, none⟩ = some (.slice a X.length c) := blk_cell HR2.out.blk 0 _ rfl
  have x1 : w2.cell? ⟨N, 1, none⟩ = some (.int .i64 ((k : Int) + (m : Int))) := by
    have := blk_cell HR2.out.blk 1 _ rfl
    rw [this]
    simp
  have HCP : Hid (∀ v', Octs w0 v' ((X.drop k).take m) → Calls Tryz.prog 95 #[v'] w2.drew fun e w' => ∃ a' c', e = .returned (.slice a' m c') ∧ w'.cell? ⟨N, 0, none⟩ = some (.slice a X.length c) ∧ w'.cell? ⟨N, 1, none⟩ = some (.int .i64 ((k : Int) + (m : Int))) ∧ Hid (OwnB w' w.heap.size (.slice a' m c') ((X.drop k).take m)) ∧ Hid (RQ w0 w' N X a c (k + m) 0) ∧ Hid (w.grownBy w' (some N))) := by
    intro v' hv'
    refine (copied_any ((X.drop k).take m) v' w2.drew (hv'.up (up_trans HR2.out.up (up_dr (Below.refl _ _)))) (by rw [List.length_take, List.length_drop]; omega)).mono ?_
    rintro e w' ⟨v3, rfl, ho, hb⟩
    have hb' : Below w2.heap.size w2 w' := up_trans (up_dr (Below.refl _ _)) hb
    have q2 := HR2.out.upw hb'
    have hO : OwnB w' w.heap.size v3 ((X.drop k).take m) := ownB_mono ho HG2.out.size
    obtain ⟨a', c', rfl, _⟩ := own_len hO
    have e : ((X.drop k).take m).length = m := by rw [List.length_take, List.length_drop]; omega
    rw [e] at hO ⊢
    refine ⟨a', c', rfl, blk_cell q2.blk 0 _ rfl, ?_, hO, q2, grown_trans HG2.out (grown_up hb' _)⟩
    rw [blk_cell q2.blk 1 _ rfl]
    simp
  clear HR HG HR2 HG2 p0 p1 p2 z1
  rcases h4.form with ⟨rfl, rfl, rfl⟩ | ⟨x, rfl, rfl⟩ | ⟨b, off, rfl, hne, hc, hcm⟩
  · obtain rfl : k = 0 := by simp at hm; omega
    obtain rfl : m = 0 := by simp at hm; omega
    replace x1 : w2.cell? ⟨N, 1, none⟩ = some (.int .i64 0) := x1
    replace x0 : w2.cell? ⟨N, 0, none⟩ = some (.slice none 0 0) := x0
    clear gs gd gk gk0 gkm gkm0 gtn gtm gw gl
    simp only [show ((0 : Nat) : Int) = 0 from rfl]
    have HCP2 : Hid (Calls Tryz.prog 95 #[.slice none 0 0] w2.drew fun e w' => ∃ a' c', e = .returned (.slice a' 0 c') ∧ w'.cell? ⟨N, 0, none⟩ = some (.slice none 0 0) ∧ w'.cell? ⟨N, 1, none⟩ = some (.int .i64 0) ∧ Hid (OwnB w' w.heap.size (.slice a' 0 c') ((([] : List Int).drop 0).take 0)) ∧ Hid (RQ w0 w' N [] (none) 0 (0 + 0) 0) ∧ Hid (w.grownBy w' (some N))) := HCP.out _ (by exact ⟨by simp, .inl ⟨by simp, _, _, rfl, fun _ => rfl⟩⟩)
    clear HCP h4
    go_region_with ((go_at_call 95; with_reducible refine HCP2.out.mono ?_; rintro e w3 ⟨a3, c3, rfl, y0, y1, O3, R3, G3⟩))
    all_goals
      go_wp2
      go_ret
      exact ⟨_, _, rfl, O3, R3, G3⟩
  · obtain rfl : k = 0 := by simp at hm; omega
    obtain rfl : m = 0 := by simp at hm; omega
    replace x1 : w2.cell? ⟨N, 1, none⟩ = some (.int .i64 0) := x1
    replace x0 : w2.cell? ⟨N, 0, none⟩ = some (.slice (some x) 0 c) := x0
    clear gs gd gk gk0 gkm gkm0 gtn gtm gw gl
    simp only [show ((0 : Nat) : Int) = 0 from rfl]
    by_cases hc0 : c = 0
    · subst hc0
      have HCP2 : Hid (Calls Tryz.prog 95 #[.slice (some x) 0 0] w2.drew fun e w' => ∃ a' c', e = .returned (.slice a' 0 c') ∧ w'.cell? ⟨N, 0, none⟩ = some (.slice (some x) 0 0) ∧ w'.cell? ⟨N, 1, none⟩ = some (.int .i64 0) ∧ Hid (OwnB w' w.heap.size (.slice a' 0 c') ((([] : List Int).drop 0).take 0)) ∧ Hid (RQ w0 w' N [] (some x) 0 (0 + 0) 0) ∧ Hid (w.grownBy w' (some N))) := HCP.out _ (by exact ⟨by simp, .inl ⟨by simp, _, _, rfl, fun e => by cases e⟩⟩)
      clear HCP h4
      go_region_with ((go_at_call 95; with_reducible refine HCP2.out.mono ?_; rintro e w3 ⟨a3, c3, rfl, y0, y1, O3, R3, G3⟩))
      all_goals
        go_wp2
        go_ret
        exact ⟨_, _, rfl, O3, R3, G3⟩
    · skip
      have HCP2 : Hid (Calls Tryz.prog 95 #[.slice (some x) 0 c] w2.drew fun e w' => ∃ a' c', e = .returned (.slice a' 0 c') ∧ w'.cell? ⟨N, 0, none⟩ = some (.slice (some x) 0 c) ∧ w'.cell? ⟨N, 1, none⟩ = some (.int .i64 0) ∧ Hid (OwnB w' w.heap.size (.slice a' 0 c') ((([] : List Int).drop 0).take 0)) ∧ Hid (RQ w0 w' N [] (some x) c (0 + 0) 0) ∧ Hid (w.grownBy w' (some N))) := HCP.out _ (by exact ⟨by simp, .inl ⟨by simp, _, _, rfl, fun e => by cases e⟩⟩)
      clear HCP h4
      go_region_with ((go_at_call 95; with_reducible refine HCP2.out.mono ?_; rintro e w3 ⟨a3, c3, rfl, y0, y1, O3, R3, G3⟩))
      all_goals
        go_wp2
        go_ret
        exact ⟨_, _, rfl, O3, R3, G3⟩
  · unfold maxLen at hcm
    have hkc : (k : Int) + (m : Int) ≤ (c : Int) := by omega
    by_cases hcn : c = k
    · obtain rfl : k = X.length := by omega
      obtain rfl : c = X.length := hcn
      obtain rfl : m = 0 := by omega
      clear gtn gtm
      have HCP2 : Hid (Calls Tryz.prog 95 #[.slice (some ⟨b, off, none⟩) 0 0] w2.drew fun e w' => ∃ a' c', e = .returned (.slice a' 0 c') ∧ w'.cell? ⟨N, 0, none⟩ = some (.slice (some ⟨b, off, none⟩) X.length X.length) ∧ w'.cell? ⟨N, 1, none⟩ = some (.int .i64 ((X.length : Int) + ((0 : Nat) : Int))) ∧ Hid (OwnB w' w.heap.size (.slice a' 0 c') ((X.drop X.length).take 0)) ∧ Hid (RQ w0 w' N X ((some ⟨b, off, none⟩)) X.length (X.length + 0) 0) ∧ Hid (w.grownBy w' (some N))) := HCP.out _ (by exact ⟨by simp, .inl ⟨by simp, _, _, rfl, fun e => by cases e⟩⟩)
      clear HCP h4
      go_region_held3 (fun w' => w'.cell? ⟨N, 0, none⟩ = some (.slice (some ⟨b, off, none⟩) X.length X.length) ∧ w'.cell? ⟨N, 1, none⟩ = some (.int .i64 ((X.length : Int) + ((0 : Nat) : Int)))) (first | with_reducible exact ⟨y0, y1⟩ | with_reducible exact ⟨x0, x1⟩ | (simp [go_sem, x0, x1]; done)) (first
        | (go_at_call 95; with_reducible refine HCP2.out.mono ?_; rintro e w3 ⟨a3, c3, rfl, y0, y1, O3, R3, G3⟩))
      all_goals
        go_wp2
        go_ret
        exact ⟨_, _, rfl, O3, R3, G3⟩
    · skip
      have HCP2 : Hid (Calls Tryz.prog 95 #[.slice (some ⟨b, off + k, none⟩) m (c - k)] w2.drew fun e w' => ∃ a' c', e = .returned (.slice a' m c') ∧ w'.cell? ⟨N, 0, none⟩ = some (.slice (some ⟨b, off, none⟩) X.length c) ∧ w'.cell? ⟨N, 1, none⟩ = some (.int .i64 ((k : Int) + (m : Int))) ∧ Hid (OwnB w' w.heap.size (.slice a' m c') ((X.drop k).take m)) ∧ Hid (RQ w0 w' N X ((some ⟨b, off, none⟩)) c (k + m) 0) ∧ Hid (w.grownBy w' (some N))) := HCP.out _ (octs_mid h4 hm hc)
      clear HCP h4
      go_region_held3 (fun w' => w'.cell? ⟨N, 0, none⟩ = some (.slice (some ⟨b, off, none⟩) X.length c) ∧ w'.cell? ⟨N, 1, none⟩ = some (.int .i64 ((k : Int) + (m : Int)))) (first | with_reducible exact ⟨y0, y1⟩ | with_reducible exact ⟨x0, x1⟩ | (simp [go_sem, x0, x1]; done)) (first
        | (go_at_call 95; with_reducible refine HCP2.out.mono ?_; rintro e w3 ⟨a3, c3, rfl, y0, y1, O3, R3, G3⟩))
      all_goals
        go_wp2
        go_ret
        exact ⟨_, _, rfl, O3, R3, G3⟩
end Go.Proofs.YtnchjlimkgbfpaaGreatDoor
