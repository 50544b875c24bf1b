/- The program's closure of touched, and IndexFunc over it. -/
import Derived.Test.YtjdibpmckeifhaaJAt
namespace Go.Proofs.Ytjdibpmckeifhaa
open Go.RowKit
set_option linter.unusedVariables false
set_option linter.unusedSimpArgs false

def missM (f t : ByteArray) (m : Me) : Bool := !(hitM f t m)
theorem missM_eq (f t : ByteArray) (m : Me) : missM f t m = ((!Op.bytesLess f.toList t.toList && !(f.toList == t.toList)) || (Op.bytesLess m.high.toList f.toList || (!Op.bytesLess m.low.toList t.toList && !(m.low.toList == t.toList)))) := by
  have h : Op.bytesLess m.high.toList f.toList = (!(leM f m.high)) := by
    cases q : leM f m.high with
    | false => rw [leM_not.1 q]; rfl
    | true =>
      cases q2 : Op.bytesLess m.high.toList f.toList with
      | false => rfl
      | true => rw [leM_not.2 q2] at q; cases q
  rw [h]
  unfold missM hitM leM
  simp only [Bool.not_and, Bool.not_or]
  congr 1
  exact Bool.or_comm _ _
set_option maxHeartbeats 4000000 in
set_option maxRecDepth 100000 in
theorem outside_any (m : Me) (f t : ByteArray) (NF NT : Nat) (w : World) (hf : w.cell? ⟨NF, 0, none⟩ = some (.string f)) (ht : w.cell? ⟨NT, 0, none⟩ = some (.string t)) :
    Calls Try.prog 44 #[meV m, .pointer (some ⟨NF, 0, none⟩), .pointer (some ⟨NT, 0, none⟩)] w fun e w' => e = .returned (.bool (missM f t m)) ∧ Below w.heap.size w w' := by
  have UB : Hid (Below w.heap.size w (w.alloc (meBox m))) := up_alloc _ _
  have HF : Hid ((w.alloc (meBox m)).cell? ⟨NF, 0, none⟩ = some (.string f)) := (UB.out.cell (World.block_lt_of_cell? w _ hf)).trans hf
  have HT : Hid ((w.alloc (meBox m)).cell? ⟨NT, 0, none⟩ = some (.string t)) := (UB.out.cell (World.block_lt_of_cell? w _ ht)).trans ht
  have BX : Hid (BoxM (w.alloc (meBox m)) w.heap.size m) := blk_new _ _
  obtain ⟨w2, hw2⟩ : ∃ w2, w2 = w.alloc (meBox m) := ⟨_, rfl⟩
  have HW2 : Hid (w.alloc (.cells #[.int .i64 m.id, .int .i64 m.lvl, .int .i64 m.cnt, .string m.low, .string m.high] 70) = w2) := hw2.symm
  rw [← hw2] at UB HF HT BX
  clear hw2 hf ht
  have hcf := HF.out
  have hct := HT.out
  obtain ⟨m0, m1, m2, m3, m4⟩ := BX.out.cells
  have HE : Hid (missM f t m = ((!Op.bytesLess f.toList t.toList && !(f.toList == t.toList)) || (Op.bytesLess m.high.toList f.toList || (!Op.bytesLess m.low.toList t.toList && !(m.low.toList == t.toList))))) := missM_eq f t m
  generalize missM f t m = R at *
  unfold meV
  cases h1 : (!Op.bytesLess f.toList t.toList && !(f.toList == t.toList)) <;> cases h2 : Op.bytesLess m.high.toList f.toList <;> cases h3 : (!Op.bytesLess m.low.toList t.toList && !(m.low.toList == t.toList))
  all_goals
    rw [h1, h2, h3] at HE
    go_enter Try.func44, Try.ntmps44
    go_upto_region 1 with fail
    rw [HW2.out]
    go_wp2_with fail
    go_ret
    exact ⟨ret_bool HE.out.symm, UB.out⟩
/-- What IndexFunc says: the first that lies outside. -/
def IdxB (l : List Me) (f t : ByteArray) (r : Int) : Prop := (r = -1 ∧ ∀ y ∈ l, missM f t y = false) ∨ ∃ k : Nat, k < l.length ∧ r = (k : Int) ∧ (∀ y ∈ l.take k, missM f t y = false) ∧ ∀ d, missM f t (l.getD k d) = true
set_option maxHeartbeats 1000000 in
set_option maxRecDepth 100000 in
theorem indexB_any (l : List Me) (v : Value) (f t : ByteArray) (NF NT : Nat) (w : World) (hv : MetsR w v l) (hf : w.cell? ⟨NF, 0, none⟩ = some (.string f)) (ht : w.cell? ⟨NT, 0, none⟩ = some (.string t)) :
    Calls Try.prog 52 #[v, .func (.func 44) #[] #[.pointer (some ⟨NF, 0, none⟩), .pointer (some ⟨NT, 0, none⟩)]] w fun e w' => ∃ r, e = .returned (.int .i64 r) ∧ Hid (IdxB l f t r) ∧ Hid (Below w.heap.size w w') := by
  have HV : Hid (MetsR w v l ∧ w.cell? ⟨NF, 0, none⟩ = some (.string f) ∧ w.cell? ⟨NT, 0, none⟩ = some (.string t)) := ⟨hv, hf, ht⟩
  obtain ⟨a, cap, rfl, hcap, hmax⟩ := hv.len
  clear hv hf ht
  unfold maxLen at hmax
  go_enter Try.func52, Try.ntmps52
  go_wp2_with fail
  go_loopw [8] (fun i wr => ∃ k : Nat, k ≤ l.length ∧ i = .int .i64 k ∧ Hid (∀ y ∈ l.take k, missM f t y = false) ∧ Hid (Below w.heap.size w wr)) (fun i _ => l.length - (intOf i).toNat)
  case atStart => exact ⟨0, Nat.zero_le _, rfl, by simp [Hid], Below.refl _ _⟩
  case round =>
    obtain ⟨k, hk, rfl, HK, up⟩ := hrel
    by_cases hlt : k < l.length
    · have hlt' : (k : Int) < (l.length : Int) := by omega
      obtain ⟨b, off, cap', y, e, hy, c0, c1, c2, c3, c4⟩ := (HV.out.1.up up.out).at k hlt
      simp at e
      obtain ⟨rfl, rfl⟩ := e
      have HY : Hid (l[k]? = some y) := hy
      have HC := hid (outside_any y f t NF NT wr ((up.out.cell (World.block_lt_of_cell? w _ HV.out.2.1)).trans HV.out.2.1) ((up.out.cell (World.block_lt_of_cell? w _ HV.out.2.2)).trans HV.out.2.2))
      unfold meV at HC
      clear hy
      cases d : missM f t y with
      | true =>
        have HM : Hid (IdxB l f t (k : Int)) := by
          refine .inr ⟨k, hlt, rfl, HK.out, fun d0 => ?_⟩
          have : l.getD k d0 = y := by simp [List.getD, HY.out]
          rw [this]; exact d
        rw [d] at HC
        clear d
        go_wp2_with fail
        refine HC.out.mono ?_
        rintro e w1 ⟨rfl, hb1⟩
        have up1 : Hid (Below w.heap.size w w1) := up_trans up.out hb1
        clear hb1
        go_wp2_with fail
        go_ret
        exact ⟨_, rfl, HM, up1⟩
      | false =>
        have HK2 : Hid (∀ y ∈ l.take (k + 1), missM f t y = false) := by
          unfold Hid
          rw [List.take_add_one, HY.out]
          intro z hz
          rcases List.mem_append.1 hz with q | q
          · exact HK.out z q
          · simp at q; rw [q]; exact d
        rw [d] at HC
        clear d
        go_wp2_with fail
        refine HC.out.mono ?_
        rintro e w1 ⟨rfl, hb1⟩
        have up1 : Hid (Below w.heap.size w w1) := up_trans up.out hb1
        clear hb1
        go_wp2_with fail
        exact ⟨⟨k + 1, by omega, by go_num, HK2, up1⟩, by simp [intOf]; omega⟩
    · have hlt' : ¬ (k : Int) < (l.length : Int) := by omega
      obtain rfl : k = l.length := by omega
      have HM : Hid (IdxB l f t (-1)) := by
        refine .inl ⟨rfl, ?_⟩
        have := HK.out
        rwa [List.take_length] at this
      go_wp2_with fail
      go_ret
      exact ⟨_, rfl, HM, up⟩
end Go.Proofs.Ytjdibpmckeifhaa
