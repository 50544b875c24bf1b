/- The program's Whole, At and New. -/
import Derived.Test.YtbknoplfjfnbcaaAApply
namespace Go.Proofs.Ytbknoplfjfnbcaa
open Go.RowKit
set_option linter.unusedVariables false
set_option linter.unusedSimpArgs false

theorem rows_shape {w : World} {base : Nat} {e : TypeId} {sz : Nat} {v : Value} {css : List (List Value)} (h : OwnR w base e sz v css) : ∃ a n c, v = .slice a n c ∧ Hid (OwnR w base e sz (.slice a n c) css) := by
  obtain ⟨a, c, e', _, _⟩ := (Rws.own h).len
  exact ⟨a, _, c, e', by rw [← e']; exact h⟩

theorem new_any (w : World) : Calls Try.prog 26 #[] w fun e w' => e = .returned (.agg #[.slice none 0 0, .int .i64 0, .int .i64 1]) ∧ Hid (Below w.heap.size w w') := by
  go_enter Try.func26, Try.ntmps26
  go_wp2
  go_returns
  exact ⟨rfl, up_alloc _ _⟩

/-- What Whole answers. -/
def WhoE (w : World) (ts : List Me) (seq next : Int) (e : Ending) (w' : World) : Prop :=
  if errV ts seq next = 0 then ∃ a n c, e = .returned (.tuple #[.agg #[.slice none 0 0, .slice a n c, .int .i64 seq, .int .i64 next], .int .i64 0]) ∧ OwnR w' w.heap.size 65 5 (.slice a n c) (ts.map meRow) ∧ Below w.heap.size w w'
  else e = .returned (.tuple #[.agg #[.slice none 0 0, .slice none 0 0, .int .i64 0, .int .i64 0], .int .i64 9]) ∧ Below w.heap.size w w'

set_option maxHeartbeats 4000000 in
set_option maxRecDepth 100000 in
theorem whole_any (ts : List Me) (seq next : Int) (va : Option Addr) (vn vc : Nat) (w : World) (hv : MetsR w (.slice va vn vc) ts) :
    Calls Try.prog 12 #[.agg #[.slice va vn vc, .int .i64 seq, .int .i64 next]] w (WhoE w ts seq next) := by
  obtain ⟨Post, hP⟩ : ∃ Post : Ending → World → Prop, Post = WhoE w ts seq next := ⟨_, rfl⟩
  have HP : Hid (∀ e w', WhoE w ts seq next e w' → Post e w') := fun e w' h => by rw [hP]; exact h
  rw [← hP]
  clear hP
  have HV : Hid (MetsR w (.slice va vn vc) ts) := hv
  clear hv
  obtain ⟨w0, hw0⟩ : ∃ w0, w0 = (w.alloc (.cells #[.slice va vn vc, .int .i64 seq, .int .i64 next] 30)).alloc (.cells #[.slice none 0 0, .slice none 0 0, .int .i64 0, .int .i64 0] 33) := ⟨_, rfl⟩
  have HW0 : Hid ((w.alloc (.cells #[.slice va vn vc, .int .i64 seq, .int .i64 next] 30)).alloc (.cells #[.slice none 0 0, .slice none 0 0, .int .i64 0, .int .i64 0] 33) = w0) := hw0.symm
  have U0 : Hid (Below w.heap.size w w0) := by rw [hw0]; exact up_al (up_alloc _ _) _
  have B0 : Hid (w0.heap[w.heap.size]? = some (.cells #[.slice va vn vc, .int .i64 seq, .int .i64 next] 30)) := by rw [hw0]; exact blk_up (blk_new _ _) (up_alloc _ _)
  have B2 : Hid (w0.heap[w.heap.size + 1]? = some (.cells #[.slice none 0 0, .slice none 0 0, .int .i64 0, .int .i64 0] 33)) := by
    rw [hw0]
    have := blk_new (w.alloc (.cells #[.slice va vn vc, .int .i64 seq, .int .i64 next] 30)) (.cells #[.slice none 0 0, .slice none 0 0, .int .i64 0, .int .i64 0] 33)
    rw [show (w.alloc (.cells #[.slice va vn vc, .int .i64 seq, .int .i64 next] 30)).heap.size = w.heap.size + 1 by simp] at this
    exact this
  have SZ : Hid (w0.heap.size = w.heap.size + 1 + 1) := by rw [hw0]; unfold Hid; simp
  clear hw0
  have HCK : Hid (Calls Try.prog 20 #[.agg #[.slice va vn vc, .int .i64 seq, .int .i64 next]] w0 fun e w' => e = .returned (.int .i64 (errV ts seq next)) ∧ Hid (Below w0.heap.size w0 w')) := check_any ts seq next va vn vc w0 (HV.out.up U0.out)
  have x0 := blk_cell B0.out 0 _ rfl
  have x1 := blk_cell B0.out 1 _ rfl
  have x2 := blk_cell B0.out 2 _ rfl
  go_enter Try.func12, Try.ntmps12
  go_upto_region 1 with fail
  rw [HW0.out]
  clear HW0
  generalize hN0 : w.heap.size + 1 = N1 at *
  have HN : Hid (w.heap.size < w0.heap.size ∧ N1 < w0.heap.size ∧ w.heap.size ≤ N1 ∧ w.heap.size ≠ N1) := by have := SZ.out; unfold Hid; omega
  clear SZ hN0
  rcases errV_cases ts seq next with hc | hc
  case inr =>
    rw [hc] at HCK
    have HR : Hid (errV ts seq next = 9) := hc
    clear hc
    go_wp2_with fail
    refine HCK.out.mono ?_
    rintro e w1 ⟨rfl, u1⟩
    have B2' := hid (blk_up B2.out u1.out)
    have U1 := hid (up_trans U0.out u1.out)
    clear u1
    have r0 := blk_cell B2'.out 0 _ rfl
    have r1 := blk_cell B2'.out 1 _ rfl
    have r2 := blk_cell B2'.out 2 _ rfl
    have r3 := blk_cell B2'.out 3 _ rfl
    have f0 := blk_frozen B2'.out 0
    have f1 := blk_frozen B2'.out 1
    have f2 := blk_frozen B2'.out 2
    have f3 := blk_frozen B2'.out 3
    go_wp2_with fail
    refine bodyPost_ret (results_edt rfl (.inl rfl) _ _ rfl (set4_blk B2'.out _ _ _ _)) rfl ?_
    refine HP.out _ _ ?_
    unfold WhoE
    rw [if_neg (by rw [HR.out]; decide)]
    exact ⟨rfl, U1.out.trans (below_grown (set4_grown w1 N1 _ _ _ _) U1.out.size (fun k hk => by injection hk with hk; have := HN.out; omega))⟩
  have HC0 : Hid (errV ts seq next = 0) := hc
  rw [hc] at HCK
  clear hc
  go_wp2_with fail
  refine HCK.out.mono ?_
  rintro e w1 ⟨rfl, u1⟩
  have U1 := hid (up_trans U0.out u1.out)
  replace B0 := hid (blk_up B0.out u1.out)
  replace B2 := hid (blk_up B2.out u1.out)
  replace HN : Hid (w.heap.size < w1.heap.size ∧ N1 < w1.heap.size ∧ w.heap.size ≤ N1 ∧ w.heap.size ≠ N1) := by have := HN.out; have := u1.out.size; unfold Hid; omega
  clear u1 HCK U0 x0 x1 x2
  clear w0
  have x0 := blk_cell B0.out 0 _ rfl
  have x1 := blk_cell B0.out 1 _ rfl
  have x2 := blk_cell B0.out 2 _ rfl
  have HRX : Hid (Rws 5 w1.drew (.slice va vn vc) (ts.map meRow)) := (HV.out.up U1.out).up (up_dr (Below.refl _ _))
  have HBN : Hid ((((([] : List (List Value)).length + (ts.map meRow).length) + (([] : List (List Value)).length + (ts.map meRow).length) / 4 + 192) * 56 ≤ 281474976710656) ∧ ([] : List (List Value)).length + (ts.map meRow).length ≤ maxLen) := by
    have := chk_len HC0.out
    unfold Hid maxLen
    rw [List.length_map]
    simp only [List.length_nil]
    omega
  have HON : Hid (∀ cs ∈ ts.map meRow, ∀ u ∈ cs, u.oneCell' = true) := by
    intro cs hcs u hu
    obtain ⟨s, _, rfl⟩ := List.mem_map.1 hcs
    exact meRow_one s u hu
  have HF : Hid (∀ w3, w1.drew.grownBy w3 none → w3.cell? ⟨w.heap.size, 0, none⟩ = some (.slice va vn vc) ∧ w3.cell? ⟨w.heap.size, 1, none⟩ = some (.int .i64 seq) ∧ w3.cell? ⟨w.heap.size, 2, none⟩ = some (.int .i64 next) ∧ w3.heap[N1]? = some (.cells #[.slice none 0 0, .slice none 0 0, .int .i64 0, .int .i64 0] 33) ∧ Below w.heap.size w w3) := by
    intro w3 g3
    have b0 := blk_grown (w := w1.drew) (B := w.heap.size) B0.out g3 (by simp)
    refine ⟨blk_cell b0 0 _ rfl, blk_cell b0 1 _ rfl, blk_cell b0 2 _ rfl, blk_grown (w := w1.drew) B2.out g3 (by simp), ?_⟩
    exact (U1.out.drew).trans (below_grown g3 (by have := U1.out.size; simpa using this) (fun k hk => by cases hk))
  have HS1 : Hid (w1.drew.heap.size ≤ w1.drew.heap.size) := Nat.le_refl _
  generalize hM : ts.map meRow = M at *
  have HM : Hid (ts.map meRow = M) := hM
  clear hM
  have hn1 : ¬ N1 = w.heap.size := by have := HN.out; omega
  have hn2 : ¬ w.heap.size = N1 := by have := HN.out; omega
  go_wp2_with fail
  go_region_held3 (fun w' => w'.cell? ⟨w.heap.size, 0, none⟩ = some (.slice va vn vc) ∧ w'.cell? ⟨w.heap.size, 1, none⟩ = some (.int .i64 seq) ∧ w'.cell? ⟨w.heap.size, 2, none⟩ = some (.int .i64 next)) (first | with_reducible exact ⟨x0, x1, x2⟩ | with_reducible exact ⟨z0, z1, z2⟩ | (simp [go_sem, x0, x1, x2]; done) | (simp [go_sem, z0, z1, z2, hn1, hn2]; done)) (first
    | (refine step_append_rows _ (by rfl) _ _ 28 65 _ 5 56 (by rfl) Try.underlying28 Try.info65 (by rfl) (by decide) w1.drew.heap.size (.slice none 0 0) [] (by rfl) (OwnR.nil _ _ _ _) (.slice va vn vc) M (by rfl) HRX.out HON.out HBN.out.1 HBN.out.2 HS1.out ?_; intro v3 w3 o3 g3; obtain ⟨z0, z1, z2, b3, u3⟩ := HF.out w3 g3; obtain ⟨a3, n3, c3, rfl, O3⟩ := rows_shape o3; have r0 := blk_cell b3 0 _ rfl; have r1 := blk_cell b3 1 _ rfl; have r2 := blk_cell b3 2 _ rfl; have r3 := blk_cell b3 3 _ rfl; have f0 := blk_frozen b3 0; have f1 := blk_frozen b3 1; have f2 := blk_frozen b3 2; have f3 := blk_frozen b3 3))
  all_goals
    go_wp2_with fail
    refine bodyPost_ret (results_edt rfl (.inl rfl) _ _ rfl (set4_blk b3 _ _ _ _)) rfl ?_
    refine HP.out _ _ ?_
    unfold WhoE
    rw [if_pos HC0.out]
    refine ⟨a3, n3, c3, rfl, ?_, u3.trans (below_grown (set4_grown w3 N1 _ _ _ _) u3.size (fun k hk => by injection hk with hk; have := HN.out; omega))⟩
    rw [HM.out]
    refine ((O3.out.mono ?_).far (set4_grown w3 N1 _ _ _ _) ?_)
    · have := HN.out.1; simp; omega
    · exact own_blk_ne O3.out.2 b3 (by decide)
end Go.Proofs.Ytbknoplfjfnbcaa
