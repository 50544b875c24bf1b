/- The document's Whole and At. -/
import Derived.Test.YtjdibpmckeifhaaRChk
import Derived.Test.YtjdibpmckeifhaaAAt
import Derived.Test.YtjdibpmckeifhaaELaw2
import Derived.Deep.RegionHeld3
namespace Go.Proofs.Ytjdibpmckeifhaa
open Go.RowKit
set_option linter.unusedVariables false
set_option linter.unusedSimpArgs false

/-- What the document's Whole answers. -/
def WhoR (w : World) (ts : List Me) (seq next : Int) (e : Ending) (w' : World) : Prop :=
  if errV ts seq next = 0 then ∃ a n c, e = .returned (.tuple #[.agg #[.slice none 0 0, .slice a n c, .int .i64 seq, .int .i64 next], .int .i64 0]) ∧ OwnR w' w.heap.size 52 5 (.slice a n c) (ts.map meRow) ∧ Below w.heap.size w w'
  else e = .returned (.tuple #[.agg #[.slice none 0 0, .slice none 0 0, .int .i64 0, .int .i64 0], .int .i64 9]) ∧ Below w.heap.size w w'

/-- What the document's At answers. -/
def AtR (w : World) (ts : List Me) (seq next lev : Int) (e : Ending) (w' : World) : Prop :=
  if errV ts seq next = 0 then ∃ a n c, e = .returned (.tuple #[.slice a n c, .int .i64 0]) ∧ OwnR w' w.heap.size 52 5 (.slice a n c) ((ts.filter (lvlM lev)).map meRow) ∧ Below w.heap.size w w'
  else e = .returned (.tuple #[.slice none 0 0, .int .i64 9]) ∧ Below w.heap.size w w'

set_option maxHeartbeats 4000000 in
set_option maxRecDepth 100000 in
theorem refAt_any (ts : List Me) (seq next lev : Int) (va : Option Addr) (vn vc : Nat) (w : World) (hv : MetsR w (.slice va vn vc) ts) :
    Calls Try.prog 45 #[.agg #[.slice va vn vc, .int .i64 seq, .int .i64 next], .int .i64 lev] w (AtR w ts seq next lev) := by
  obtain ⟨Post, hP⟩ : ∃ Post : Ending → World → Prop, Post = AtR w ts seq next lev := ⟨_, rfl⟩
  have HP : Hid (∀ e w', AtR w ts seq next lev e w' → Post e w') := fun e w' h => by rw [hP]; exact h
  rw [← hP]
  clear hP
  obtain ⟨a', c', e', hc1, hc2⟩ := hv.len
  simp only [Value.slice.injEq] at e'
  obtain ⟨rfl, rfl, rfl⟩ := e'
  have HV : Hid (MetsR w (.slice va ts.length vc) ts) := hv
  clear hv hc1 hc2
  obtain ⟨w0, hw0⟩ : ∃ w0, w0 = w.alloc (.cells #[.slice va ts.length vc, .int .i64 seq, .int .i64 next] 24) := ⟨_, rfl⟩
  have HW0 : Hid (w.alloc (.cells #[.slice va ts.length vc, .int .i64 seq, .int .i64 next] 24) = w0) := hw0.symm
  have U0 : Hid (Below w.heap.size w w0) := by rw [hw0]; exact up_alloc _ _
  have B0 : Hid (w0.heap[w.heap.size]? = some (.cells #[.slice va ts.length vc, .int .i64 seq, .int .i64 next] 24)) := by rw [hw0]; exact blk_new _ _
  clear hw0
  have HCK : Hid (Calls Try.prog 20 #[.agg #[.slice va ts.length vc, .int .i64 seq, .int .i64 next]] w0 fun e w' => e = .returned (.int .i64 (errV ts seq next)) ∧ Hid (Below w0.heap.size w0 w')) := refCheck_any ts seq next va ts.length vc w0 (HV.out.up U0.out)
  have x0 := blk_cell B0.out 0 _ rfl
  have x1 := blk_cell B0.out 1 _ rfl
  have x2 := blk_cell B0.out 2 _ rfl
  go_enter Try.func45, Try.ntmps45
  go_upto_region 1 with fail
  rw [HW0.out]
  clear HW0
  rcases errV_cases ts seq next with hc | hc
  case inr =>
    rw [hc] at HCK
    have HR : Hid (errV ts seq next = 9) := hc
    clear hc
    go_wp2_with fail
    refine HCK.out.mono ?_
    rintro e w1 ⟨rfl, u1⟩
    go_wp2_with fail
    refine HP.out _ _ ?_
    unfold AtR
    rw [if_neg (by rw [HR.out]; decide)]
    exact ⟨rfl, up_trans U0.out u1.out⟩
  have HC0 : Hid (errV ts seq next = 0) := hc
  rw [hc] at HCK
  clear hc
  have hL : ts.length ≤ 256 := chk_len HC0.out
  go_wp2_with fail
  refine HCK.out.mono ?_
  rintro e w1 ⟨rfl, u1⟩
  have U1 := hid (up_trans U0.out u1.out)
  replace B0 := hid (blk_up B0.out u1.out)
  clear u1 HCK U0 x0 x1 x2
  clear w0
  have x0 := blk_cell B0.out 0 _ rfl
  go_wp2_with fail
  clear x0
  go_loopw [6, 7] (fun o i wr => ∃ (k : Nat) (ao : Option Addr) (no co : Nat), k ≤ ts.length ∧ i = .int .i64 k ∧ o = .slice ao no co ∧ Hid (OwnR wr w1.heap.size 52 5 (.slice ao no co) (((ts.take k).filter (lvlM lev)).map meRow)) ∧ Hid (Below w1.heap.size w1 wr)) (fun _ i _ => ts.length - (intOf i).toNat)
  case atStart => exact ⟨0, none, 0, 0, Nat.zero_le _, rfl, rfl, OwnR.nil _ _ _ _, Below.refl _ _⟩
  case round =>
    obtain ⟨k, ao, no, co, hk, rfl, rfl, HO, HB⟩ := hrel
    have x0 := blk_cell (blk_up B0.out HB.out) 0 _ rfl
    by_cases hlt : k < ts.length
    · have hlt' : (k : Int) < (ts.length : Int) := by omega
      obtain ⟨b, off, cap, x, e, hx, m0, m1, m2, m3, m4⟩ := ((HV.out.up U1.out).up HB.out).at k hlt
      simp only [Value.slice.injEq] at e
      obtain ⟨rfl, _, rfl⟩ := e
      have HX : Hid (ts[k]? = some x) := hx
      clear hx
      by_cases hq : x.lvl = lev
      · have hq' : (x.lvl == lev) = true := by simp [hq]
        have HT : Hid ((((ts.take k).filter (lvlM lev)).map meRow) ++ [[.int .i64 x.id, .int .i64 x.lvl, .int .i64 x.cnt, .string x.low, .string x.high]] = ((ts.take (k + 1)).filter (lvlM lev)).map meRow) := by
          unfold Hid
          rw [List.take_add_one, HX.out, List.filter_append, List.map_append]
          simp [lvlM, hq, meRow]
        have HC2 : Hid ((((((ts.take k).filter (lvlM lev)).map meRow).length + 1 + ((((ts.take k).filter (lvlM lev)).map meRow).length + 1) / 4 + 192) * 56 ≤ 281474976710656) ∧ (((ts.take k).filter (lvlM lev)).map meRow).length + 1 ≤ maxLen) := by
          have h1 := List.length_filter_le (lvlM lev) (ts.take k)
          rw [List.length_take] at h1
          unfold Hid maxLen
          rw [List.length_map]
          omega
        have HO1 : Hid (∀ u ∈ ([.int .i64 x.id, .int .i64 x.lvl, .int .i64 x.cnt, .string x.low, .string x.high] : List Value), u.oneCell' = true) := meRow_one x
        have S0 : Hid (w1.heap.size ≤ wr.heap.size) := HB.out.size
        obtain ⟨T2, hT2⟩ : ∃ T2, ((ts.take (k + 1)).filter (lvlM lev)).map meRow = T2 := ⟨_, rfl⟩
        rw [hT2] at HT
        have HT2 : Hid (((ts.take (k + 1)).filter (lvlM lev)).map meRow = T2) := hT2
        clear hT2 HX hq
        generalize ((ts.take k).filter (lvlM lev)).map meRow = T1 at *
        go_wp2_with (at_builtin; refine wpList_append_row wr rfl _ _ 22 52 _ 5 56 rfl Try.underlying22 Try.info52 rfl (by decide) w1.heap.size (.slice ao no co) T1 rfl HO.out [.int .i64 x.id, .int .i64 x.lvl, .int .i64 x.cnt, .string x.low, .string x.high] _ _ rfl rfl rfl rfl HO1.out HC2.out.1 HC2.out.2 S0.out ?_)
        intro v2 w4 O2 B2
        rw [HT.out] at O2
        have U4 : Hid (Below w1.heap.size w1 w4) := HB.out.trans B2
        obtain ⟨a3, n3, c3, rfl, O3⟩ := rows_shape O2
        clear O2 B2 HO HT HC2
        go_wp2_with fail
        exact ⟨⟨k + 1, a3, n3, c3, by omega, by go_num, rfl, by rw [HT2.out]; exact O3, U4⟩, by simp [intOf]; omega⟩
      · have hq' : (x.lvl == lev) = false := by simp [hq]
        have HT : Hid (((ts.take (k + 1)).filter (lvlM lev)) = (ts.take k).filter (lvlM lev)) := by
          unfold Hid
          rw [List.take_add_one, HX.out, List.filter_append]
          simp [lvlM, hq]
        go_wp2_with fail
        exact ⟨⟨k + 1, ao, no, co, by omega, by go_num, rfl, by rw [HT.out]; exact HO, HB⟩, by simp [intOf]; omega⟩
    · have hlt' : ¬ (k : Int) < (ts.length : Int) := by omega
      obtain rfl : k = ts.length := by omega
      rw [List.take_length] at HO
      go_wp2_with fail
      refine HP.out _ _ ?_
      unfold AtR
      rw [if_pos HC0.out]
      exact ⟨ao, no, co, rfl, HO.out.mono U1.out.size, up_trans U1.out HB.out⟩
end Go.Proofs.Ytjdibpmckeifhaa
