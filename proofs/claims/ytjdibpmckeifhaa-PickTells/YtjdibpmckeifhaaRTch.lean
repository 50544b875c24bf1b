/- The document's Touch. -/
import Derived.Test.YtjdibpmckeifhaaJTch
import Derived.Test.YtjdibpmckeifhaaRChk
import Derived.Test.YtjdibpmckeifhaaJChM
namespace Go.Proofs.Ytjdibpmckeifhaa
open Go.RowKit
set_option linter.unusedVariables false
set_option linter.unusedSimpArgs false

theorem touch_cases (f t : ByteArray) (m : Me) :
    ((Op.bytesLess f.toList t.toList || (f.toList == t.toList)) = false ∧ hitM f t m = false) ∨
    ((Op.bytesLess f.toList t.toList || (f.toList == t.toList)) = true ∧ (Op.bytesLess m.low.toList t.toList || (m.low.toList == t.toList)) = false ∧ hitM f t m = false) ∨
    ((Op.bytesLess f.toList t.toList || (f.toList == t.toList)) = true ∧ (Op.bytesLess m.low.toList t.toList || (m.low.toList == t.toList)) = true ∧ (!Op.bytesLess m.high.toList f.toList) = false ∧ hitM f t m = false) ∨
    ((Op.bytesLess f.toList t.toList || (f.toList == t.toList)) = true ∧ (Op.bytesLess m.low.toList t.toList || (m.low.toList == t.toList)) = true ∧ (!Op.bytesLess m.high.toList f.toList) = true ∧ hitM f t m = true) := by
  have e1 : (!Op.bytesLess m.high.toList f.toList) = leM f m.high := by
    cases q : leM f m.high with
    | false => rw [leM_not.1 q]; rfl
    | true =>
      cases q2 : Op.bytesLess m.high.toList f.toList with
      | false => rfl
      | true => rw [leM_not.2 q2] at q; cases q
  have e : hitM f t m = ((Op.bytesLess f.toList t.toList || (f.toList == t.toList)) && ((Op.bytesLess m.low.toList t.toList || (m.low.toList == t.toList)) && (!Op.bytesLess m.high.toList f.toList))) := by
    rw [e1]
    rfl
  rw [e]
  generalize (Op.bytesLess f.toList t.toList || (f.toList == t.toList)) = b
  generalize (Op.bytesLess m.low.toList t.toList || (m.low.toList == t.toList)) = c
  generalize (!Op.bytesLess m.high.toList f.toList) = d
  cases b <;> cases c <;> cases d <;> simp
def idT (ts : List Me) (lev : Int) (f t : ByteArray) (k : Nat) : List (List Value) := idR (((atM ts lev).take k).filter (hitM f t))
theorem idT_step {ts : List Me} {lev : Int} {k : Nat} {x : Me} (h : (atM ts lev)[k]? = some x) (f t : ByteArray) : idT ts lev f t (k + 1) = idT ts lev f t k ++ (if hitM f t x = true then [[.int .i64 x.id]] else []) := by
  unfold idT idR
  rw [List.take_add_one, h, Option.toList_some, List.filter_append, List.map_append, List.map_append]
  congr 1
  cases q : hitM f t x <;> simp [q, irow]
theorem idT_len (ts : List Me) (lev : Int) (f t : ByteArray) (k : Nat) : (idT ts lev f t k).length ≤ (atM ts lev).length := by
  unfold idT idR
  rw [List.length_map, List.length_map]
  have := List.length_filter_le (hitM f t) ((atM ts lev).take k)
  rw [List.length_take] at this
  omega
set_option maxHeartbeats 4000000 in
set_option maxRecDepth 100000 in
theorem refTouch_any (ts : List Me) (seq next lev : Int) (f t : ByteArray) (va : Option Addr) (vn vc : Nat) (w : World) (hv : MetsR w (.slice va vn vc) ts) :
    Calls Try.prog 14 #[.agg #[.slice va vn vc, .int .i64 seq, .int .i64 next], .int .i64 lev, .string f, .string t] w (TchE w ts seq next lev f t) := by
  obtain ⟨Post, hP⟩ : ∃ Post : Ending → World → Prop, Post = TchE w ts seq next lev f t := ⟨_, rfl⟩
  have HP : Hid (∀ e w', TchE w ts seq next lev f t e w' → Post e w') := fun e w' h => by rw [hP]; exact h
  rw [← hP]
  clear hP
  have HV : Hid (MetsR w (.slice va vn vc) ts) := hv
  obtain ⟨w0, hw0⟩ : ∃ w0, w0 = w.alloc (.cells #[.slice va vn vc, .int .i64 seq, .int .i64 next] 24) := ⟨_, rfl⟩
  have HW0 : Hid (w.alloc (.cells #[.slice va vn vc, .int .i64 seq, .int .i64 next] 24) = w0) := hw0.symm
  have U0 : Hid (Below w.heap.size w w0) := by rw [hw0]; exact up_alloc _ _
  have B0 : Hid (w0.heap[w.heap.size]? = some (.cells #[.slice va vn vc, .int .i64 seq, .int .i64 next] 24)) := by rw [hw0]; exact blk_new _ _
  have HCK : Hid (Calls Try.prog 20 #[.agg #[.slice va vn vc, .int .i64 seq, .int .i64 next]] w0 fun e w' => e = .returned (.int .i64 (errV ts seq next)) ∧ Hid (Below w0.heap.size w0 w')) := refCheck_any ts seq next va vn vc w0 (hv.up U0.out)
  clear hv hw0
  have x0 := blk_cell B0.out 0 _ rfl
  have x1 := blk_cell B0.out 1 _ rfl
  have x2 := blk_cell B0.out 2 _ rfl
  go_enter Try.func14, Try.ntmps14
  go_upto_region 1 with fail
  rw [HW0.out]
  clear HW0
  rcases errV_cases ts seq next with hc | hc
  case inr =>
    have HR : Hid (errV ts seq next = 9) := hc
    have HT : Hid (tchM ts seq next lev f t = []) := by unfold Hid tchM; rw [if_neg (by rw [hc]; decide)]
    rw [hc] at HCK
    clear hc
    go_wp2_with fail
    refine HCK.out.mono ?_
    rintro e w1 ⟨rfl, u1⟩
    go_wp2_with fail
    refine HP.out _ _ ?_
    exact ⟨none, 0, 0, by rw [HR.out]; rfl, by rw [HT.out]; exact OwnR.nil _ _ _ _, up_trans U0.out u1.out⟩
  have HR : Hid (errV ts seq next = 0) := hc
  have HT : Hid ((tchM ts seq next lev f t).map irow = idT ts lev f t (atM ts lev).length) := by
    unfold Hid tchM idT
    rw [if_pos hc, List.take_length]
    rfl
  have HLA : Hid ((atM ts lev).length ≤ 256) := (cnt_at hc lev).1
  rw [hc] at HCK
  clear hc
  go_wp2_with fail
  refine HCK.out.mono ?_
  rintro e w1 ⟨rfl, u1⟩
  have U1 := hid (up_trans U0.out u1.out)
  have B1 := hid (blk_up B0.out u1.out)
  clear x0 x1 x2 HCK u1 U0 B0
  clear w0
  have x0 := blk_cell B1.out 0 _ rfl
  have x1 := blk_cell B1.out 1 _ rfl
  have x2 := blk_cell B1.out 2 _ rfl
  have HCA := hid (rat_any ts seq next lev va vn vc w1 (HV.out.up U1.out) HR.out)
  go_wp2_with fail
  refine HCA.out.mono ?_
  rintro e w2 ⟨ra, rn, rc, rfl, O2, u2⟩
  have U2 := hid (up_trans U1.out u2.out)
  have HRN := hid (rows_mlen O2.out)
  obtain rfl : rn = (atM ts lev).length := HRN.out
  have HM : Hid (MetsR w2 (.slice ra (atM ts lev).length rc) (atM ts lev)) := Rws.own O2.out
  have hL := HLA.out
  clear x0 x1 x2 HCA u2 U1 B1 O2 HRN
  clear w1
  go_wp2_with fail
  have HST : Hid (∀ k x, (atM ts lev)[k]? = some x → idT ts lev f t (k + 1) = idT ts lev f t k ++ (if hitM f t x = true then [[.int .i64 x.id]] else [])) := fun k x h => idT_step h f t
  have HLN : Hid (∀ k, (idT ts lev f t k).length ≤ 256) := fun k => Nat.le_trans (idT_len ts lev f t k) HLA.out
  have H0 : Hid (idT ts lev f t 0 = []) := rfl
  clear HLA
  generalize idT ts lev f t = IT at *
  generalize atM ts lev = l at *
  go_loopw [10, 12] (fun o i wr => ∃ (k : Nat) (ao : Option Addr) (no co : Nat), k ≤ l.length ∧ i = .int .i64 k ∧ o = .slice ao no co ∧ Hid (OwnR wr w2.heap.size 3 1 (.slice ao no co) (IT k)) ∧ Hid (Below w2.heap.size w2 wr)) (fun _ i _ => l.length - (intOf i).toNat)
  case atStart => exact ⟨0, none, 0, 0, Nat.zero_le _, rfl, rfl, by rw [H0.out]; exact OwnR.nil _ _ _ _, Below.refl _ _⟩
  case round =>
    obtain ⟨k, ao, no, co, hk, rfl, rfl, HO, HB⟩ := hrel
    by_cases hlt : k < l.length
    · have hlt' : (k : Int) < (l.length : Int) := by omega
      obtain ⟨b, off, cap, x, e, hx, m0, m1, m2, m3, m4⟩ := (HM.out.up HB.out).at k hlt
      simp only [Value.slice.injEq] at e
      obtain ⟨rfl, _, rfl⟩ := e
      have HS := hid (HST.out k x hx)
      clear hx
      rcases touch_cases f t x with ⟨h2, h9⟩ | ⟨h2, h3, h9⟩ | ⟨h2, h3, h4, h9⟩ | ⟨h2, h3, h4, h9⟩
      case inr.inr.inr =>
        rw [h9, if_pos rfl] at HS
        have HC2 : Hid (((IT k).length + 1 + ((IT k).length + 1) / 4 + 192) * 8 ≤ 281474976710656 ∧ (IT k).length + 1 ≤ maxLen) := by
          have := HLN.out k
          unfold Hid maxLen; omega
        have HO1 : Hid (∀ u ∈ ([.int .i64 x.id] : List Value), u.oneCell' = true) := by intro u hu; simp at hu; subst hu; rfl
        have S0 : Hid (w2.heap.size ≤ wr.heap.size) := HB.out.size
        clear h9
        go_wp2_with (at_builtin; refine wpList_append_row wr rfl _ _ 29 3 _ 1 8 rfl Try.underlying29 Try.info3 rfl (by decide) w2.heap.size (.slice ao no co) (IT k) rfl HO.out [.int .i64 x.id] _ _ rfl rfl rfl rfl HO1.out HC2.out.1 HC2.out.2 S0.out ?_)
        intro v2 w4 O2 B2
        rw [← HS.out] at O2
        have U4 : Hid (Below w2.heap.size w2 w4) := HB.out.trans B2
        obtain ⟨a3, n3, c3, rfl, O3⟩ := rows_shape O2
        clear O2 B2 HO HC2 m0 m1 m2 m3 m4
        go_wp2_with fail
        exact ⟨⟨k + 1, a3, n3, c3, by omega, by go_num, rfl, O3, U4⟩, by simp [intOf]; omega⟩
      all_goals
        rw [h9, if_neg (by decide), List.append_nil] at HS
        clear h9
        go_wp2_with fail
        exact ⟨⟨k + 1, ao, no, co, by omega, by go_num, rfl, by rw [HS.out]; exact HO, HB⟩, by simp [intOf]; omega⟩
    · have hlt' : ¬ (k : Int) < (l.length : Int) := by omega
      obtain rfl : k = l.length := by omega
      go_wp2_with fail
      refine HP.out _ _ ?_
      exact ⟨ao, no, co, by rw [HR.out], by rw [HT.out]; exact HO.out.mono U2.out.size, up_trans U2.out HB.out⟩
end Go.Proofs.Ytjdibpmckeifhaa
