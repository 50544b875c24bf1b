/- The program's At. -/
import Derived.Test.YtbknoplfjfnbcaaAWhole
namespace Go.Proofs.Ytbknoplfjfnbcaa
open Go.RowKit
set_option linter.unusedVariables false
set_option linter.unusedSimpArgs false

def lvlM (lev : Int) (m : Me) : Bool := decide (m.lvl = lev)
/-- What At answers. -/
def AtE (w : World) (ts : List Me) (seq next lev : Int) (e : Ending) (w' : World) : Prop :=
  if errV ts seq next = 0 then ∃ a n c, e = .returned (.tuple #[.slice a n c, .int .i64 0]) ∧ OwnR w' w.heap.size 65 5 (.slice a n c) ((ts.filter (lvlM lev)).map meRow) ∧ Below w.heap.size w w'
  else e = .returned (.tuple #[.slice none 0 0, .int .i64 9]) ∧ Below w.heap.size w w'

set_option maxHeartbeats 4000000 in
set_option maxRecDepth 100000 in
theorem at_any (ts : List Me) (seq next lev : Int) (va : Option Addr) (vn vc : Nat) (w : World) (hv : MetsR w (.slice va vn vc) ts) :
    Calls Try.prog 14 #[.agg #[.slice va vn vc, .int .i64 seq, .int .i64 next], .int .i64 lev] w (AtE w ts seq next lev) := by
  obtain ⟨Post, hP⟩ : ∃ Post : Ending → World → Prop, Post = AtE w ts seq next lev := ⟨_, rfl⟩
  have HP : Hid (∀ e w', AtE w ts seq next lev e w' → Post e w') := fun e w' h => by rw [hP]; exact h
  rw [← hP]
  clear hP
  have HV : Hid (MetsR w (.slice va vn vc) ts) := hv
  clear hv
  obtain ⟨w0, hw0⟩ : ∃ w0, w0 = (w.alloc (.cells #[.slice va vn vc, .int .i64 seq, .int .i64 next] 30)).alloc (.cells #[.int .i64 lev] 3) := ⟨_, rfl⟩
  have HW0 : Hid ((w.alloc (.cells #[.slice va vn vc, .int .i64 seq, .int .i64 next] 30)).alloc (.cells #[.int .i64 lev] 3) = w0) := hw0.symm
  have U0 : Hid (Below w.heap.size w w0) := by rw [hw0]; exact up_al (up_alloc _ _) _
  have B0 : Hid (w0.heap[w.heap.size]? = some (.cells #[.slice va vn vc, .int .i64 seq, .int .i64 next] 30)) := by rw [hw0]; exact blk_up (blk_new _ _) (up_alloc _ _)
  have B2 : Hid (w0.heap[w.heap.size + 1]? = some (.cells #[.int .i64 lev] 3)) := by
    rw [hw0]
    have := blk_new (w.alloc (.cells #[.slice va vn vc, .int .i64 seq, .int .i64 next] 30)) (.cells #[.int .i64 lev] 3)
    rw [show (w.alloc (.cells #[.slice va vn vc, .int .i64 seq, .int .i64 next] 30)).heap.size = w.heap.size + 1 by simp] at this
    exact this
  clear hw0
  have HCK : Hid (Calls Try.prog 20 #[.agg #[.slice va vn vc, .int .i64 seq, .int .i64 next]] w0 fun e w' => e = .returned (.int .i64 (errV ts seq next)) ∧ Hid (Below w0.heap.size w0 w')) := check_any ts seq next va vn vc w0 (HV.out.up U0.out)
  have x0 := blk_cell B0.out 0 _ rfl
  have x1 := blk_cell B0.out 1 _ rfl
  have x2 := blk_cell B0.out 2 _ rfl
  go_enter Try.func14, Try.ntmps14
  go_upto_region 1 with fail
  rw [HW0.out]
  clear HW0
  generalize w.heap.size + 1 = N1 at *
  rcases errV_cases ts seq next with hc | hc
  case inr =>
    rw [hc] at HCK
    have HR : Hid (errV ts seq next = 9) := hc
    clear hc
    go_wp2_with fail
    refine HCK.out.mono ?_
    rintro e w1 ⟨rfl, u1⟩
    go_wp2_with fail
    refine HP.out _ _ ?_
    unfold AtE
    rw [if_neg (by rw [HR.out]; decide)]
    exact ⟨rfl, up_trans U0.out u1.out⟩
  have HC0 : Hid (errV ts seq next = 0) := hc
  rw [hc] at HCK
  clear hc
  go_wp2_with fail
  refine HCK.out.mono ?_
  rintro e w1 ⟨rfl, u1⟩
  have U1 := hid (up_trans U0.out u1.out)
  replace B0 := hid (blk_up B0.out u1.out)
  replace B2 := hid (blk_up B2.out u1.out)
  clear u1 HCK U0 x0 x1 x2
  clear w0
  have x0 := blk_cell B0.out 0 _ rfl
  have HCH : Hid (Calls Try.prog 34 #[.slice va vn vc, .func (.func 35) #[] #[.pointer (some ⟨N1, 0, none⟩)]] w1 fun e w' => ∃ a n c, e = .returned (.slice a n c) ∧ Hid (OwnR w' w1.heap.size 65 5 (.slice a n c) ((ts.filter (lvlM lev)).map meRow)) ∧ Hid (Below w1.heap.size w1 w')) := by
    refine chosen35_any (lvlM lev) N1 ts _ w1 (HV.out.up U1.out) (chk_len HC0.out) (fun m hm W hW => ?_)
    exact at1_any m N1 lev W (blk_cell (blk_up B2.out hW) 0 _ rfl)
  go_wp2_with (go_at_call 34; refine HCH.out.mono ?_; rintro e w5 ⟨ra, rn, rc, rfl, O5, U5⟩)
  refine HP.out _ _ ?_
  unfold AtE
  rw [if_pos HC0.out]
  exact ⟨ra, rn, rc, rfl, O5.out.mono U1.out.size, up_trans U1.out U5.out⟩

theorem num_any (n : Int) (w : World) : Calls Try.prog 17 #[.int .i64 n] w fun e w' => e = .returned (.int .i64 n) ∧ w' = w := by
  go_enter Try.func17, Try.ntmps17
  go_wp2
  go_ret
  exact ⟨rfl, rfl⟩

def exA : Me := ⟨1, 1, 1, ⟨#[97]⟩, ⟨#[99]⟩⟩
def exB : Me := ⟨2, 1, 1, ⟨#[98]⟩, ⟨#[100]⟩⟩
theorem exA_app : appM [] 0 1 [] [exA] 0 3 = ([exA], 0) := by kernel_rfl
theorem exB_app : appM [exA] 0 3 [] [exB] 0 3 = ([], 9) := by kernel_rfl

set_option maxHeartbeats 4000000 in
set_option maxRecDepth 100000 in
theorem alive_any (w : World) : Calls Try.prog 22 #[] w fun e w' => e = .returned (.bool true) ∧ Hid (Below w.heap.size w w') := by
  have HN : Hid (∀ w, Calls Try.prog 26 #[] w fun e w' => e = .returned (.agg #[.slice none 0 0, .int .i64 0, .int .i64 1]) ∧ Hid (Below w.heap.size w w')) := new_any
  have HL : Hid (∀ (W : World) (x : Me), MetsR (W.alloc (.cells #[.int .i64 x.id, .int .i64 x.lvl, .int .i64 x.cnt, .string x.low, .string x.high] 65)) (.slice (some ⟨W.heap.size, 0, none⟩) 1 1) [x]) := fun W x => Rws.made (sz := 5) W 65 [meRow x] (by simp [meRow_len]) (by simp [maxLen])
  go_enter Try.func22, Try.ntmps22
  go_wp2_with fail
  refine (HN.out _).mono ?_
  rintro e w1 ⟨rfl, u1⟩
  have hm := HL.out w1 exA
  have u2 := hid (up_trans u1.out (up_alloc w1 (.cells #[.int .i64 exA.id, .int .i64 exA.lvl, .int .i64 exA.cnt, .string exA.low, .string exA.high] 65)))
  have HA1 := hid (apply_any [] 0 1 [] [exA] 0 3 none none (some ⟨w1.heap.size, 0, none⟩) 0 0 0 0 1 1 _ (Rws.nil _ _) (Rws.nil _ _) hm (by simp) (by simp))
  rw [exA_app] at HA1
  simp only [exA] at HA1 u2
  clear hm
  go_wp2_with fail
  refine HA1.out.mono ?_
  rintro e w3 ⟨a3, n3, c3, he, hO, hb⟩
  simp only [if_true] at he
  subst he
  have U3 := hid (up_trans u2.out hb)
  have hn3 : n3 = 1 := by
    obtain ⟨_, _, e, _, _⟩ := (Rws.own hO).len
    simp only [Value.slice.injEq, List.length_map, List.length_cons, List.length_nil] at e
    exact e.2.1
  subst hn3
  have HO3 : Hid (MetsR w3 (.slice a3 1 c3) [exA]) := Rws.own hO
  clear hO hb HA1 u1 u2
  obtain ⟨w4, hw4⟩ : ∃ w4, w4 = w3.alloc (.cells #[.slice a3 1 c3, .int .i64 0, .int .i64 3] 30) := ⟨_, rfl⟩
  have HW4 : Hid (w3.alloc (.cells #[.slice a3 1 c3, .int .i64 0, .int .i64 3] 30) = w4) := hw4.symm
  have u4 : Hid (Below w3.heap.size w3 w4) := by rw [hw4]; exact up_alloc _ _
  have B4 : Hid (w4.heap[w3.heap.size]? = some (.cells #[.slice a3 1 c3, .int .i64 0, .int .i64 3] 30)) := by rw [hw4]; exact blk_new _ _
  clear hw4
  go_upto_region 2 with fail
  rw [HW4.out]
  clear HW4
  have U4 := hid (up_trans U3.out u4.out)
  have HO4 := hid (HO3.out.up u4.out)
  clear HO3 U3 u4
  generalize w3.heap.size = N4 at *
  clear w3
  have q0 := blk_cell B4.out 0 _ rfl
  have q1 := blk_cell B4.out 1 _ rfl
  have q2 := blk_cell B4.out 2 _ rfl
  have hm := HL.out w4 exB
  have u5 := hid (up_alloc w4 (.cells #[.int .i64 exB.id, .int .i64 exB.lvl, .int .i64 exB.cnt, .string exB.low, .string exB.high] 65))
  have HA2 := hid (apply_any [exA] 0 3 [] [exB] 0 3 a3 none (some ⟨w4.heap.size, 0, none⟩) 1 c3 0 0 1 1 _ (HO4.out.up u5.out) (Rws.nil _ _) hm (by simp) (by simp))
  rw [exB_app] at HA2
  simp only [exB] at HA2 u5
  clear hm
  go_wp2_with fail
  refine HA2.out.mono ?_
  rintro e w6 ⟨a6, n6, c6, he, hO, hb⟩
  simp only [show ¬ ((9 : Int) = 0) by decide, if_false] at he
  subst he
  have U6 := hid (up_trans (up_trans U4.out u5.out) hb)
  have B6 := hid (blk_up (blk_up B4.out u5.out) hb)
  clear hO hb HA2 u5 U4 HO4 B4 q0 q1 q2
  obtain ⟨w7, hw7⟩ : ∃ w7, w7 = w6.alloc (.cells #[.slice a6 n6 c6, .int .i64 0, .int .i64 0] 30) := ⟨_, rfl⟩
  have HW7 : Hid (w6.alloc (.cells #[.slice a6 n6 c6, .int .i64 0, .int .i64 0] 30) = w7) := hw7.symm
  have u7 : Hid (Below w6.heap.size w6 w7) := by rw [hw7]; exact up_alloc _ _
  clear hw7
  go_upto_region 3 with fail
  rw [HW7.out]
  clear HW7
  have U7 := hid (up_trans U6.out u7.out)
  have B7 := hid (blk_up B6.out u7.out)
  have q0 := blk_cell B7.out 0 _ rfl
  have HNU : Hid (∀ n w, Calls Try.prog 17 #[.int .i64 n] w fun e w' => e = .returned (.int .i64 n) ∧ w' = w) := num_any
  clear u7 U6 B6
  go_wp2_with fail
  refine (HNU.out _ _).mono ?_
  rintro e w8 ⟨rfl, hw8⟩
  subst hw8
  go_wp2_with fail
  refine (HNU.out _ _).mono ?_
  rintro e w9 ⟨rfl, hw9⟩
  subst hw9
  go_wp2_with fail
  go_ret
  exact ⟨rfl, U7⟩
end Go.Proofs.Ytbknoplfjfnbcaa
