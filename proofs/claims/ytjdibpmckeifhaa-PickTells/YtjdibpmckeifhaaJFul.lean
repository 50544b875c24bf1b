/- The program's isFull, the document's full. -/
import Derived.Test.YtjdibpmckeifhaaJCnt
import Derived.Test.YtjdibpmckeifhaaLInts
namespace Go.Proofs.Ytjdibpmckeifhaa
open Go.RowKit
set_option linter.unusedVariables false
set_option linter.unusedSimpArgs false

def fullB (lev : Int) (l : List Me) : Bool := if lev = 0 then decide (4 ≤ (l.length : Int)) else if lev = 1 then decide (128 < cntM l) else if lev = 2 then decide (512 < cntM l) else false
def fullN (ts : List Me) (k : Nat) : List Int := ((List.range k).map (fun i : Nat => (i : Int))).filter (fun i => fullB i (atM ts i))
theorem fullN_step (ts : List Me) (k : Nat) : fullN ts (k + 1) = fullN ts k ++ (if fullB k (atM ts k) = true then [(k : Int)] else []) := by
  unfold fullN
  rw [List.range_succ, List.map_append, List.filter_append]
  congr 1
  simp only [List.map_cons, List.map_nil, List.filter_cons, List.filter_nil]
theorem fullN_len (ts : List Me) (k : Nat) : (fullN ts k).length ≤ k := by
  unfold fullN
  refine Nat.le_trans (List.length_filter_le _ _) ?_
  simp
theorem fullN_three (ts : List Me) : fullN ts 3 = fullM ts := by
  rw [fullN_step, fullN_step, fullN_step]
  have e0 : fullN ts 0 = [] := rfl
  rw [e0]
  unfold fullM
  have a0 : (fullB (((0 : Nat) : Int)) (atM ts ((0 : Nat) : Int)) = true) = (4 ≤ (atM ts 0).length) := by
    rw [show (((0 : Nat) : Int)) = 0 from rfl]
    unfold fullB
    rw [if_pos rfl, decide_eq_true_eq]
    apply propext
    omega
  have a1 : (fullB (((1 : Nat) : Int)) (atM ts ((1 : Nat) : Int)) = true) = (128 < cntM (atM ts 1)) := by
    rw [show (((1 : Nat) : Int)) = 1 from rfl]
    unfold fullB
    rw [if_neg (by decide), if_pos rfl, decide_eq_true_eq]
  have a2 : (fullB (((2 : Nat) : Int)) (atM ts ((2 : Nat) : Int)) = true) = (512 < cntM (atM ts 2)) := by
    rw [show (((2 : Nat) : Int)) = 2 from rfl]
    unfold fullB
    rw [if_neg (by decide), if_neg (by decide), if_pos rfl, decide_eq_true_eq]
  simp only [Nat.zero_add, Nat.reduceAdd, a0, a1, a2, List.nil_append, List.append_assoc]
  rfl
theorem fullN_four (ts : List Me) : fullN ts 4 = fullM ts := by
  rw [fullN_step ts 3, fullN_three]
  rw [if_neg (by rw [show (((3 : Nat) : Int)) = 3 from rfl]; unfold fullB; simp), List.append_nil]
set_option maxHeartbeats 4000000 in
set_option maxRecDepth 100000 in
theorem isFull_any (lev : Int) (l : List Me) (v : Value) (w : World) (hv : MetsR w v l) (hc : CntL l) :
    Calls Try.prog 24 #[.int .i64 lev, v] w fun e w' => e = .returned (.bool (fullB lev l)) ∧ Hid (Below w.heap.size w w') := by
  have HC : Hid (Calls Try.prog 41 #[v] w fun e w' => e = .returned (.int .i64 (cntM l)) ∧ Hid (Below w.heap.size w w')) := verIn_any l v w hv hc
  obtain ⟨a1, c1, rfl, g1, m1⟩ := hv.len
  clear hv hc g1 m1
  obtain ⟨R, hR⟩ : ∃ R, R = fullB lev l := ⟨_, rfl⟩
  have HR : Hid (R = fullB lev l) := hR
  rw [← hR]
  clear hR
  unfold fullB at HR
  generalize cntM l = C at *
  by_cases h0 : lev = 0
  · subst h0
    rw [if_pos rfl] at HR
    go_enter Try.func24, Try.ntmps24
    go_wp2_with fail
    go_ret
    exact ⟨ret_bool HR.out.symm, Below.refl _ _⟩
  by_cases h1 : lev = 1
  · subst h1
    rw [if_neg (by decide), if_pos rfl] at HR
    clear h0
    go_enter Try.func24, Try.ntmps24
    go_wp2_with fail
    refine HC.out.mono ?_
    rintro e w1 ⟨rfl, u1⟩
    go_wp2_with fail
    go_ret
    exact ⟨ret_bool HR.out.symm, u1⟩
  by_cases h2 : lev = 2
  · subst h2
    rw [if_neg (by decide), if_neg (by decide), if_pos rfl] at HR
    clear h0 h1
    go_enter Try.func24, Try.ntmps24
    go_wp2_with fail
    refine HC.out.mono ?_
    rintro e w1 ⟨rfl, u1⟩
    go_wp2_with fail
    go_ret
    exact ⟨ret_bool HR.out.symm, u1⟩
  · rw [if_neg h0, if_neg h1, if_neg h2] at HR
    have e0 : (lev == 0) = false := by simpa using h0
    have e1 : (lev == 1) = false := by simpa using h1
    have e2 : (lev == 2) = false := by simpa using h2
    clear h0 h1 h2
    go_enter Try.func24, Try.ntmps24
    go_wp2_with fail
    go_ret
    exact ⟨ret_bool HR.out.symm, Below.refl _ _⟩
set_option maxHeartbeats 4000000 in
set_option maxRecDepth 100000 in
theorem refFul_any (lev : Int) (ts : List Me) (seq next : Int) (va : Option Addr) (vn vc : Nat) (w : World) (hv : MetsR w (.slice va vn vc) ts) (he : errV ts seq next = 0) :
    Calls Try.prog 26 #[.agg #[.slice va vn vc, .int .i64 seq, .int .i64 next], .int .i64 lev] w fun e w' => e = .returned (.bool (fullB lev (atM ts lev))) ∧ Hid (Below w.heap.size w w') := by
  obtain ⟨w0, hw0⟩ : ∃ w0, w0 = w.alloc (.cells #[.slice va vn vc, .int .i64 seq, .int .i64 next] 24) := ⟨_, rfl⟩
  have HW0 : Hid (w.alloc (.cells #[.slice va vn vc, .int .i64 seq, .int .i64 next] 24) = w0) := hw0.symm
  have U0 : Hid (Below w.heap.size w w0) := by rw [hw0]; exact up_alloc _ _
  have B0 : Hid (w0.heap[w.heap.size]? = some (.cells #[.slice va vn vc, .int .i64 seq, .int .i64 next] 24)) := by rw [hw0]; exact blk_new _ _
  have HCA : Hid (∀ lv, Calls Try.prog 33 #[.agg #[.slice va vn vc, .int .i64 seq, .int .i64 next], .int .i64 lv] w0 fun e w' => ∃ a n c, e = .returned (.slice a n c) ∧ Hid (OwnR w' w0.heap.size 52 5 (.slice a n c) ((atM ts lv).map meRow)) ∧ Hid (Below w0.heap.size w0 w')) := fun lv => rat_any ts seq next lv va vn vc w0 (hv.up U0.out) he
  have HCC : Hid (∀ lv W v, MetsR W v (atM ts lv) → Calls Try.prog 42 #[v] W fun e w' => e = .returned (.int .i64 (cntM (atM ts lv))) ∧ w' = W) := fun lv W v h => refCnt_any (atM ts lv) v W h (cnt_at he lv)
  clear hv he hw0
  have x0 := blk_cell B0.out 0 _ rfl
  have x1 := blk_cell B0.out 1 _ rfl
  have x2 := blk_cell B0.out 2 _ rfl
  obtain ⟨R, hR⟩ : ∃ R, R = fullB lev (atM ts lev) := ⟨_, rfl⟩
  have HR : Hid (R = fullB lev (atM ts lev)) := hR
  rw [← hR]
  clear hR
  unfold fullB at HR
  by_cases h0 : lev = 0
  · subst h0
    rw [if_pos rfl] at HR
    go_enter Try.func26, Try.ntmps26
    go_upto_region 1 with fail
    rw [HW0.out]
    clear HW0
    go_wp2_with fail
    refine (HCA.out 0).mono ?_
    rintro e w1 ⟨ra, rn, rc, rfl, O1, u1⟩
    obtain ⟨q1, q2, q3, q4, q5⟩ := (Rws.own O1.out).len
    rw [List.length_map] at q3
    simp only [Value.slice.injEq] at q3
    obtain ⟨rfl, rfl, rfl⟩ := q3
    clear q4 q5
    go_wp2_with fail
    go_ret
    exact ⟨ret_bool HR.out.symm, up_trans U0.out u1.out⟩
  by_cases h1 : lev = 1
  · subst h1
    rw [if_neg (by decide), if_pos rfl] at HR
    clear h0
    go_enter Try.func26, Try.ntmps26
    go_upto_region 1 with fail
    rw [HW0.out]
    clear HW0
    go_wp2_with fail
    refine (HCA.out 1).mono ?_
    rintro e w1 ⟨ra, rn, rc, rfl, O1, u1⟩
    have HK := hid (HCC.out 1 w1 _ (Rws.own O1.out))
    clear HCC HCA
    generalize cntM (atM ts 1) = C at *
    go_wp2_with fail
    refine HK.out.mono ?_
    rintro e w2 ⟨rfl, rfl⟩
    go_wp2_with fail
    go_ret
    exact ⟨ret_bool HR.out.symm, up_trans U0.out u1.out⟩
  by_cases h2 : lev = 2
  · subst h2
    rw [if_neg (by decide), if_neg (by decide), if_pos rfl] at HR
    clear h0 h1
    go_enter Try.func26, Try.ntmps26
    go_upto_region 1 with fail
    rw [HW0.out]
    clear HW0
    go_wp2_with fail
    refine (HCA.out 2).mono ?_
    rintro e w1 ⟨ra, rn, rc, rfl, O1, u1⟩
    have HK := hid (HCC.out 2 w1 _ (Rws.own O1.out))
    clear HCC HCA
    generalize cntM (atM ts 2) = C at *
    go_wp2_with fail
    refine HK.out.mono ?_
    rintro e w2 ⟨rfl, rfl⟩
    go_wp2_with fail
    go_ret
    exact ⟨ret_bool HR.out.symm, up_trans U0.out u1.out⟩
  · rw [if_neg h0, if_neg h1, if_neg h2] at HR
    have e0 : (lev == 0) = false := by simpa using h0
    have e1 : (lev == 1) = false := by simpa using h1
    have e2 : (lev == 2) = false := by simpa using h2
    clear h0 h1 h2
    go_enter Try.func26, Try.ntmps26
    go_upto_region 1 with fail
    rw [HW0.out]
    clear HW0
    go_wp2_with fail
    go_ret
    exact ⟨ret_bool HR.out.symm, U0⟩

/-- What Full answers. -/
def FullE (w : World) (ts : List Me) (seq next : Int) (e : Ending) (w' : World) : Prop :=
  if errV ts seq next = 0 then ∃ a n c, e = .returned (.tuple #[.slice a n c, .int .i64 0]) ∧ Hid (OwnR w' w.heap.size 3 1 (.slice a n c) ((fullM ts).map irow)) ∧ Hid (Below w.heap.size w w')
  else e = .returned (.tuple #[.slice none 0 0, .int .i64 9]) ∧ Hid (Below w.heap.size w w')
end Go.Proofs.Ytjdibpmckeifhaa
