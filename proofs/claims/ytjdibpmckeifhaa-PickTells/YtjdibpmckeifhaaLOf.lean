/- The law's Of and OfEdit. -/
import Derived.Test.YtjdibpmckeifhaaAAt
import Derived.Test.YtjdibpmckeifhaaELaw2
import Derived.Deep.RegionHeld3
namespace Go.Proofs.Ytjdibpmckeifhaa
open Go.RowKit
set_option linter.unusedVariables false
set_option linter.unusedSimpArgs false

theorem results_ver1 {fn : Func} {t : TypeId} {p : Nat} (h : fn.results = #[.cell p t]) (hl : t = 27 ∨ t = 24) (tmps : Array Value) (w : World) {N : Nat} {a b c : Value} (ht : tmps.getD p undef = .pointer (some ⟨N, 0, none⟩))
    (hc : w.heap[N]? = some (.cells #[a, b, c] t)) : (results fn tmps).run Try.prog w = .ok (.agg #[a, b, c]) w := by
  have c0 := blk_cell hc 0 a rfl
  have c1 := blk_cell hc 1 b rfl
  have c2 := blk_cell hc 2 c rfl
  have ht' : tmps[p]?.getD undef = .pointer (some ⟨N, 0, none⟩) := by simpa using ht
  rcases hl with rfl | rfl
  · simp only [results, h]
    simp [ht', go_sem, c0, c1, c2]
  · simp only [results, h]
    simp [ht', go_sem, c0, c1, c2]
/-- A version, an edit, in memory of the call's own. -/
def VerO (w : World) (base : Nat) (a : Option Addr) (n c : Nat) (ts : List Me) : Prop := OwnR w base 70 5 (.slice a n c) (ts.map meRow)
theorem VerO.up {w w' : World} {base : Nat} {a : Option Addr} {n c : Nat} {ts : List Me} (h : VerO w base a n c ts) (hb : Below w.heap.size w w') : VerO w' base a n c ts := OwnR.up h hb
theorem VerO.read {w : World} {base : Nat} {a : Option Addr} {n c : Nat} {ts : List Me} (h : VerO w base a n c ts) : MetsR w (.slice a n c) ts := Rws.own h

set_option maxHeartbeats 4000000 in
set_option maxRecDepth 100000 in
theorem of_any (ts : List Me) (seq next : Int) (va : Option Addr) (vn vc : Nat) (w : World) (hv : MetsR w (.slice va vn vc) ts) (hl : ts.length ≤ 4000000000000) :
    Calls Try.prog 8 #[.agg #[.slice va vn vc, .int .i64 seq, .int .i64 next]] w fun e w' => ∃ a n c, e = .returned (.agg #[.slice a n c, .int .i64 seq, .int .i64 next]) ∧ Hid (VerO w' w.heap.size a n c ts) ∧ Hid (Below w.heap.size w w') := by
  have HV : Hid (MetsR w (.slice va vn vc) ts) := hv
  clear hv
  obtain ⟨w0, hw0⟩ : ∃ w0, w0 = (w.alloc (.cells #[.slice va vn vc, .int .i64 seq, .int .i64 next] 24)).alloc (.cells #[.slice none 0 0, .int .i64 0, .int .i64 0] 27) := ⟨_, rfl⟩
  have HW0 : Hid ((w.alloc (.cells #[.slice va vn vc, .int .i64 seq, .int .i64 next] 24)).alloc (.cells #[.slice none 0 0, .int .i64 0, .int .i64 0] 27) = w0) := hw0.symm
  have U0 : Hid (Below w.heap.size w w0) := by rw [hw0]; exact up_al (up_alloc _ _) _
  have B0 : Hid (w0.heap[w.heap.size]? = some (.cells #[.slice va vn vc, .int .i64 seq, .int .i64 next] 24)) := by rw [hw0]; exact blk_up (blk_new _ _) (up_alloc _ _)
  have B2 : Hid (w0.heap[w.heap.size + 1]? = some (.cells #[.slice none 0 0, .int .i64 0, .int .i64 0] 27)) := by
    rw [hw0]
    have := blk_new (w.alloc (.cells #[.slice va vn vc, .int .i64 seq, .int .i64 next] 24)) (.cells #[.slice none 0 0, .int .i64 0, .int .i64 0] 27)
    rw [show (w.alloc (.cells #[.slice va vn vc, .int .i64 seq, .int .i64 next] 24)).heap.size = w.heap.size + 1 by simp] at this
    exact this
  clear hw0
  have x0 := blk_cell B0.out 0 _ rfl
  have x1 := blk_cell B0.out 1 _ rfl
  have x2 := blk_cell B0.out 2 _ rfl
  go_enter Try.func8, Try.ntmps8
  go_upto_region 1 with fail
  rw [HW0.out]
  clear HW0
  generalize hN1 : w.heap.size + 1 = N1 at *
  have hn1 : ¬ N1 = w.heap.size := by omega
  have hn2 : ¬ w.heap.size = N1 := by omega
  have HN1 : Hid (w.heap.size ≤ N1) := by unfold Hid; omega
  clear hN1
  have HC : Hid (Calls Try.prog 22 #[.slice va vn vc] w0.drew fun e w' => ∃ a n c, e = .returned (.slice a n c) ∧ Hid (VerO w' w.heap.size a n c ts) ∧ w'.cell? ⟨w.heap.size, 0, none⟩ = some (.slice va vn vc) ∧ w'.cell? ⟨w.heap.size, 1, none⟩ = some (.int .i64 seq) ∧ w'.cell? ⟨w.heap.size, 2, none⟩ = some (.int .i64 next) ∧ Hid (w'.heap[N1]? = some (.cells #[.slice none 0 0, .int .i64 0, .int .i64 0] 27)) ∧ Hid (Below w.heap.size w w')) := by
    have u : Below w0.heap.size w0 w0.drew := up_dr (Below.refl _ _)
    refine (ofMetas_own ts _ w0.drew ((HV.out.up U0.out).up u) hl).mono ?_
    rintro e w' ⟨a, c, rfl, hO, hb⟩
    have u2 := up_trans u hb.out
    have b0 := blk_up B0.out u2
    exact ⟨a, _, c, rfl, hO.out.mono (by have := (up_trans U0.out u).size; exact this), blk_cell b0 0 _ rfl, blk_cell b0 1 _ rfl, blk_cell b0 2 _ rfl, blk_up B2.out u2, up_trans U0.out u2⟩
  go_region_held3 (fun w' => w'.cell? ⟨w.heap.size, 0, none⟩ = some (.slice va vn vc) ∧ w'.cell? ⟨w.heap.size, 1, none⟩ = some (.int .i64 seq) ∧ w'.cell? ⟨w.heap.size, 2, none⟩ = some (.int .i64 next)) (first | with_reducible exact ⟨x0, x1, x2⟩ | with_reducible exact ⟨z0, z1, z2⟩ | (simp [go_sem, x0, x1, x2]; done) | (simp [go_sem, z0, z1, z2, hn1, hn2]; done)) (first
    | (go_at_call 22; with_reducible refine HC.out.mono ?_; rintro e w3 ⟨a3, n3, c3, rfl, O3, z0, z1, z2, b3, u3⟩; have r0 := blk_cell b3.out 0 _ rfl; have r1 := blk_cell b3.out 1 _ rfl; have r2 := blk_cell b3.out 2 _ rfl; have f0 := blk_frozen b3.out 0; have f1 := blk_frozen b3.out 1; have f2 := blk_frozen b3.out 2))
  all_goals
    go_wp2_with fail
    refine bodyPost_ret (results_ver1 rfl (.inl rfl) _ _ rfl (set3_blk b3.out _ _ _)) rfl ?_
    refine ⟨a3, n3, c3, rfl, ?_, u3.out.trans (below_grown (set3_grown w3 N1 _ _ _) u3.out.size (fun k hk => by injection hk with hk; have := HN1.out; omega))⟩
    exact OwnR.far O3.out (set3_grown w3 N1 _ _ _) (own_blk_ne O3.out.2 b3.out (by decide))

end Go.Proofs.Ytjdibpmckeifhaa
