/- The program's At. -/
import Derived.Test.YtjdibpmckeifhaaAWith
namespace Go.Proofs.Ytjdibpmckeifhaa
open Go.RowKit
set_option linter.unusedVariables false
set_option linter.unusedSimpArgs false

theorem errV_cases (ts : List Me) (s n : Int) : errV ts s n = 0 ∨ errV ts s n = 9 := by
  unfold errV
  split
  · exact .inl rfl
  · exact .inr rfl
theorem errV_zero {ts : List Me} {s n : Int} : errV ts s n = 0 ↔ chkV ts s n = true := by
  unfold errV
  constructor
  · intro h
    by_cases q : chkV ts s n = true
    · exact q
    · rw [if_neg q] at h; cases h
  · intro h; rw [if_pos h]
theorem chk_len {ts : List Me} {s n : Int} (h : errV ts s n = 0) : ts.length ≤ 256 := by
  have := errV_zero.1 h
  unfold chkV at this
  rw [Bool.and_eq_true, decide_eq_true_eq] at this
  exact this.1.1
theorem results_ver {fn : Func} {t : TypeId} {p q : Nat} (h : fn.results = #[.cell p t, .tmp q]) (hl : t = 27 ∨ t = 24) (tmps : Array Value) (w : World) {N : Nat} {a b c : Value} (ht : tmps.getD p undef = .pointer (some ⟨N, 0, none⟩))
    (hc : w.heap[N]? = some (.cells #[a, b, c] t)) : (results fn tmps).run Try.prog w = .ok (.tuple #[.agg #[a, b, c], tmps.getD q undef]) w := by
  have c0 := blk_cell hc 0 a rfl
  have c1 := blk_cell hc 1 b rfl
  have c2 := blk_cell hc 2 c rfl
  have ht' : tmps[p]?.getD undef = .pointer (some ⟨N, 0, none⟩) := by simpa using ht
  rcases hl with rfl | rfl
  · simp only [results, h]
    simp [ht', go_sem, c0, c1, c2]
  · simp only [results, h]
    simp [ht', go_sem, c0, c1, c2]
theorem set3_blk {W : World} {N : Nat} {x y z : Value} {t : TypeId} (h : W.heap[N]? = some (.cells #[x, y, z] t)) (a b c : Value) : (((W.setCell ⟨N, 0, none⟩ a).setCell ⟨N, 1, none⟩ b).setCell ⟨N, 2, none⟩ c).heap[N]? = some (.cells #[a, b, c] t) :=
  blk_set (blk_set (blk_set h 0 a) 1 b) 2 c
theorem set3_grown (W : World) (N : Nat) (a b c : Value) : W.grownBy (((W.setCell ⟨N, 0, none⟩ a).setCell ⟨N, 1, none⟩ b).setCell ⟨N, 2, none⟩ c) (some N) :=
  grown_trans (grown_trans (grown_set W ⟨N, 0, none⟩ a) (grown_set _ ⟨N, 1, none⟩ b)) (grown_set _ ⟨N, 2, none⟩ c)
theorem set4_blk {W : World} {N : Nat} {x y z u : Value} {t : TypeId} (h : W.heap[N]? = some (.cells #[x, y, z, u] t)) (a b c d : Value) : ((((W.setCell ⟨N, 0, none⟩ a).setCell ⟨N, 1, none⟩ b).setCell ⟨N, 2, none⟩ c).setCell ⟨N, 3, none⟩ d).heap[N]? = some (.cells #[a, b, c, d] t) :=
  blk_set (blk_set (blk_set (blk_set h 0 a) 1 b) 2 c) 3 d
theorem set4_grown (W : World) (N : Nat) (a b c d : Value) : W.grownBy ((((W.setCell ⟨N, 0, none⟩ a).setCell ⟨N, 1, none⟩ b).setCell ⟨N, 2, none⟩ c).setCell ⟨N, 3, none⟩ d) (some N) :=
  grown_trans (set3_grown W N a b c) (grown_set _ ⟨N, 3, none⟩ d)
theorem blk_low {B : Nat} {w w' : World} {N : Nat} {o : Obj} (h : w.heap[N]? = some o) (hb : Below B w w') (hN : N < B) : w'.heap[N]? = some o := (hb.block N hN).trans h

theorem rows_shape {w : World} {base : Nat} {e : TypeId} {sz : Nat} {v : Value} {css : List (List Value)} (h : OwnR w base e sz v css) : ∃ a n c, v = .slice a n c ∧ Hid (OwnR w base e sz (.slice a n c) css) := by
  obtain ⟨a, c, e', _, _⟩ := (Rws.own h).len
  exact ⟨a, _, c, e', by rw [← e']; exact h⟩


def lvlM (lev : Int) (m : Me) : Bool := decide (m.lvl = lev)
/-- What At answers. -/
def AtE (w : World) (ts : List Me) (seq next lev : Int) (e : Ending) (w' : World) : Prop :=
  if errV ts seq next = 0 then ∃ a n c, e = .returned (.tuple #[.slice a n c, .int .i64 0]) ∧ OwnR w' w.heap.size 70 5 (.slice a n c) ((ts.filter (lvlM lev)).map meRow) ∧ Below w.heap.size w w'
  else e = .returned (.tuple #[.slice none 0 0, .int .i64 9]) ∧ Below w.heap.size w w'

set_option maxHeartbeats 4000000 in
set_option maxRecDepth 100000 in
theorem at_any (ts : List Me) (seq next lev : Int) (va : Option Addr) (vn vc : Nat) (w : World) (hv : MetsR w (.slice va vn vc) ts) :
    Calls Try.prog 34 #[.agg #[.slice va vn vc, .int .i64 seq, .int .i64 next], .int .i64 lev] w (AtE w ts seq next lev) := by
  obtain ⟨Post, hP⟩ : ∃ Post : Ending → World → Prop, Post = AtE w ts seq next lev := ⟨_, rfl⟩
  have HP : Hid (∀ e w', AtE w ts seq next lev e w' → Post e w') := fun e w' h => by rw [hP]; exact h
  rw [← hP]
  clear hP
  have HV : Hid (MetsR w (.slice va vn vc) ts) := hv
  clear hv
  obtain ⟨w0, hw0⟩ : ∃ w0, w0 = (w.alloc (.cells #[.slice va vn vc, .int .i64 seq, .int .i64 next] 27)).alloc (.cells #[.int .i64 lev] 3) := ⟨_, rfl⟩
  have HW0 : Hid ((w.alloc (.cells #[.slice va vn vc, .int .i64 seq, .int .i64 next] 27)).alloc (.cells #[.int .i64 lev] 3) = w0) := hw0.symm
  have U0 : Hid (Below w.heap.size w w0) := by rw [hw0]; exact up_al (up_alloc _ _) _
  have B0 : Hid (w0.heap[w.heap.size]? = some (.cells #[.slice va vn vc, .int .i64 seq, .int .i64 next] 27)) := by rw [hw0]; exact blk_up (blk_new _ _) (up_alloc _ _)
  have B2 : Hid (w0.heap[w.heap.size + 1]? = some (.cells #[.int .i64 lev] 3)) := by
    rw [hw0]
    have := blk_new (w.alloc (.cells #[.slice va vn vc, .int .i64 seq, .int .i64 next] 27)) (.cells #[.int .i64 lev] 3)
    rw [show (w.alloc (.cells #[.slice va vn vc, .int .i64 seq, .int .i64 next] 27)).heap.size = w.heap.size + 1 by simp] at this
    exact this
  clear hw0
  have HCK : Hid (Calls Try.prog 23 #[.agg #[.slice va vn vc, .int .i64 seq, .int .i64 next]] w0 fun e w' => e = .returned (.int .i64 (errV ts seq next)) ∧ Hid (Below w0.heap.size w0 w')) := check_any ts seq next va vn vc w0 (HV.out.up U0.out)
  have x0 := blk_cell B0.out 0 _ rfl
  have x1 := blk_cell B0.out 1 _ rfl
  have x2 := blk_cell B0.out 2 _ rfl
  go_enter Try.func34, Try.ntmps34
  go_upto_region 1 with fail
  rw [HW0.out]
  clear HW0
  generalize w.heap.size + 1 = N1 at *
  rcases errV_cases ts seq next with hc | hc
  case inr =>
    rw [hc] at HCK
    have HR : Hid (errV ts seq next = 9) := hc
    clear hc
    go_wp2_with fail
    refine HCK.out.mono ?_
    rintro e w1 ⟨rfl, u1⟩
    go_wp2_with fail
    refine HP.out _ _ ?_
    unfold AtE
    rw [if_neg (by rw [HR.out]; decide)]
    exact ⟨rfl, up_trans U0.out u1.out⟩
  have HC0 : Hid (errV ts seq next = 0) := hc
  rw [hc] at HCK
  clear hc
  go_wp2_with fail
  refine HCK.out.mono ?_
  rintro e w1 ⟨rfl, u1⟩
  have U1 := hid (up_trans U0.out u1.out)
  replace B0 := hid (blk_up B0.out u1.out)
  replace B2 := hid (blk_up B2.out u1.out)
  clear u1 HCK U0 x0 x1 x2
  clear w0
  have x0 := blk_cell B0.out 0 _ rfl
  have HCH : Hid (Calls Try.prog 46 #[.slice va vn vc, .func (.func 47) #[] #[.pointer (some ⟨N1, 0, none⟩)]] w1 fun e w' => ∃ a n c, e = .returned (.slice a n c) ∧ Hid (OwnR w' w1.heap.size 70 5 (.slice a n c) ((ts.filter (lvlM lev)).map meRow)) ∧ Hid (Below w1.heap.size w1 w')) := by
    refine chosen35_any (lvlM lev) N1 ts _ w1 (HV.out.up U1.out) (chk_len HC0.out) (fun m hm W hW => ?_)
    exact at1_any m N1 lev W (blk_cell (blk_up B2.out hW) 0 _ rfl)
  go_wp2_with (go_at_call 46; refine HCH.out.mono ?_; rintro e w5 ⟨ra, rn, rc, rfl, O5, U5⟩)
  refine HP.out _ _ ?_
  unfold AtE
  rw [if_pos HC0.out]
  exact ⟨ra, rn, rc, rfl, O5.out.mono U1.out.size, up_trans U1.out U5.out⟩

end Go.Proofs.Ytjdibpmckeifhaa
