/- The program's Between of layer 10. -/
import Derived.Test.YtekoniaobmapdaaUQ
import Derived.Test.YtekoniaobmapdaaG32
import Derived.Test.YtekoniaobmapdaaG24
import Derived.Test.YtekoniaobmapdaaG30
namespace Go.Proofs.Ytekoniaobmapdaa
open Go.RowKit SumPlain
set_option linter.unusedVariables false
set_option linter.unusedSimpArgs false

/-- Does a version lie outside? -/
def outB (f t : ByteArray) (x : En) : Bool := !(inB f t x)
set_option maxRecDepth 100000 in
theorem outside_any (x : En) (f t : ByteArray) (NF NT : Nat) (w : World) (hf : w.cell? ⟨NF, 0, none⟩ = some (.string f)) (ht : w.cell? ⟨NT, 0, none⟩ = some (.string t)) :
    Calls Try.prog 28 #[enV x, .pointer (some ⟨NF, 0, none⟩), .pointer (some ⟨NT, 0, none⟩)] w fun e w' => e = .returned (.bool (outB f t x)) ∧ Below w.heap.size w w' := by
  have hf2 := cellAl hf (enObj x)
  have ht2 := cellAl ht (enObj x)
  unfold enObj at hf2 ht2
  unfold enV outB inB
  cases q1 : Op.bytesLess x.key.toList f.toList
  · cases q2 : (t.toList == [])
    · have q3 : (t.toList != []) = true := by simp at q2; simp [q2]
      have q4 : ¬ t.toList = [] := by simpa using q2
      cases q5 : Op.bytesLess x.key.toList t.toList
      · go_enter Try.func28, Try.ntmps28
        go_wp2
        go_ret
        exact ⟨by simp, up_alloc _ _⟩
      · go_enter Try.func28, Try.ntmps28
        go_wp2
        go_ret
        exact ⟨by simp, up_alloc _ _⟩
    · have q4 : t.toList = [] := by simpa using q2
      go_enter Try.func28, Try.ntmps28
      go_wp2
      go_ret
      exact ⟨by simp, up_alloc _ _⟩
  · go_enter Try.func28, Try.ntmps28
    go_wp2
    go_ret
    exact ⟨by simp, up_alloc _ _⟩

/-- What IndexFunc says: the first that lies outside. -/
def IdxB (l : List En) (f t : ByteArray) (r : Int) : Prop := (r = -1 ∧ ∀ y ∈ l, outB f t y = false) ∨ ∃ k : Nat, k < l.length ∧ r = (k : Int) ∧ (∀ y ∈ l.take k, outB f t y = false) ∧ ∀ d, outB f t (l.getD k d) = true
set_option maxHeartbeats 1000000 in
set_option maxRecDepth 100000 in
theorem indexB_any (l : List En) (v : Value) (f t : ByteArray) (NF NT : Nat) (w : World) (hv : EntsR w v l) (hf : w.cell? ⟨NF, 0, none⟩ = some (.string f)) (ht : w.cell? ⟨NT, 0, none⟩ = some (.string t)) :
    Calls Try.prog 25 #[v, .func (.func 28) #[] #[.pointer (some ⟨NF, 0, none⟩), .pointer (some ⟨NT, 0, none⟩)]] w fun e w' => ∃ r, e = .returned (.int .i64 r) ∧ Hid (IdxB l f t r) ∧ Hid (Below w.heap.size w w') := by
  have HV : Hid (EntsR w v l ∧ w.cell? ⟨NF, 0, none⟩ = some (.string f) ∧ w.cell? ⟨NT, 0, none⟩ = some (.string t)) := ⟨hv, hf, ht⟩
  obtain ⟨a, cap, rfl, hcap, hmax⟩ := hv.len
  clear hv hf ht
  unfold maxLen at hmax
  go_enter Try.func25, Try.ntmps25
  go_wp2_with fail
  go_loopw [8] (fun i wr => ∃ k : Nat, k ≤ l.length ∧ i = .int .i64 k ∧ Hid (∀ y ∈ l.take k, outB f t y = false) ∧ Hid (Below w.heap.size w wr)) (fun i _ => l.length - (intOf i).toNat)
  case atStart => exact ⟨0, Nat.zero_le _, rfl, by simp [Hid], Below.refl _ _⟩
  case round =>
    obtain ⟨k, hk, rfl, HK, up⟩ := hrel
    by_cases hlt : k < l.length
    · have hlt' : (k : Int) < (l.length : Int) := by omega
      obtain ⟨b, off, cap', y, e, hy, c0, c1, c2, c3⟩ := (HV.out.1.up up.out).at k hlt
      simp at e
      obtain ⟨rfl, rfl⟩ := e
      have HY : Hid (l[k]? = some y) := hy
      have HC := hid (outside_any y f t NF NT wr ((up.out.cell (World.block_lt_of_cell? w _ HV.out.2.1)).trans HV.out.2.1) ((up.out.cell (World.block_lt_of_cell? w _ HV.out.2.2)).trans HV.out.2.2))
      unfold enV at HC
      clear hy
      cases d : outB f t y with
      | true =>
        have HM : Hid (IdxB l f t (k : Int)) := by
          refine .inr ⟨k, hlt, rfl, HK.out, fun d0 => ?_⟩
          have : l.getD k d0 = y := by simp [List.getD, HY.out]
          rw [this]; exact d
        rw [d] at HC
        clear d
        go_wp2_with fail
        refine HC.out.mono ?_
        rintro e w1 ⟨rfl, hb1⟩
        have up1 : Hid (Below w.heap.size w w1) := up_trans up.out hb1
        clear hb1
        go_wp2_with fail
        go_ret
        exact ⟨_, rfl, HM, up1⟩
      | false =>
        have HK2 : Hid (∀ y ∈ l.take (k + 1), outB f t y = false) := by
          unfold Hid
          rw [List.take_add_one, HY.out]
          intro z hz
          rcases List.mem_append.1 hz with q | q
          · exact HK.out z q
          · simp at q; rw [q]; exact d
        rw [d] at HC
        clear d
        go_wp2_with fail
        refine HC.out.mono ?_
        rintro e w1 ⟨rfl, hb1⟩
        have up1 : Hid (Below w.heap.size w w1) := up_trans up.out hb1
        clear hb1
        go_wp2_with fail
        exact ⟨⟨k + 1, by omega, by go_num, HK2, up1⟩, by simp [intOf]; omega⟩
    · have hlt' : ¬ (k : Int) < (l.length : Int) := by omega
      obtain rfl : k = l.length := by omega
      have HM : Hid (IdxB l f t (-1)) := by
        refine .inl ⟨rfl, ?_⟩
        have := HK.out
        rwa [List.take_length] at this
      go_wp2_with fail
      go_ret
      exact ⟨_, rfl, HM, up⟩

set_option maxHeartbeats 2000000 in
set_option maxRecDepth 100000 in
theorem inOrder_any (l : List En) (a : Option Addr) (c : Nat) (w : World) (hv : EntsR w (.slice a l.length c) l) :
    Calls Try.prog 27 #[.slice a l.length c] w fun e w' => e = .returned (.bool (ascT none l)) ∧ Below w.heap.size w w' := by
  have HV : Hid (EntsR w (.slice a l.length c) l) := hv
  have hl63 : l.length ≤ 9223372036854775807 := by obtain ⟨_, _, e, h4, h5⟩ := hv.len; unfold maxLen at h5; omega
  clear hv
  go_enter Try.func27, Try.ntmps27
  go_wp2_with fail
  go_loopw [3] (fun i wr => ∃ k : Nat, 1 ≤ k ∧ (k ≤ l.length ∨ k = 1) ∧ i = .int .i64 k ∧ Hid (ascT none l = ascT (prevE l k) (l.drop k)) ∧ Hid (Below w.heap.size w wr)) (fun i _ => l.length - (intOf i).toNat)
  case atStart => exact ⟨1, Nat.le_refl _, .inr rfl, rfl, ascT_one l, Below.refl _ _⟩
  case round =>
    obtain ⟨k, hk1, hk, rfl, HK, HB⟩ := hrel
    by_cases hlt : k < l.length
    · have hlt' : (k : Int) < (l.length : Int) := by omega
      have HVr : Hid (EntsR wr (.slice a l.length c) l) := HV.out.up HB.out
      obtain ⟨b, off, cap, x, e, hx, z0, z1, z2, z3⟩ := HVr.out.at k hlt
      simp at e
      obtain ⟨rfl, rfl⟩ := e
      have HO : Hid (ascT (prevE l k) (l.drop k) = (aheadE (prevE l k) x && ascT (prevE l (k + 1)) (l.drop (k + 1)))) := ascT_at l k x hx
      clear hx
      obtain ⟨j, hj⟩ : ∃ j, k = j + 1 := ⟨k - 1, by omega⟩
      obtain ⟨b2, off2, cap2, y, e2, hy, t0, t1, t2, t3⟩ := HVr.out.at j (by omega)
      simp at e2
      obtain ⟨⟨rfl, rfl⟩, rfl⟩ := e2
      have hjj : (k : Int) - 1 = (j : Int) := by omega
      have hwj : IntKind.i64.wrap (j : Int) = (j : Int) := by rw [IntKind.wrap_i64]; omega
      have hjl : (j : Int) < (l.length : Int) := by omega
      have hpe : prevE l k = some y := by unfold prevE; rw [if_neg (by omega), hj]; exact hy
      have HAH : Hid (aheadE (prevE l k) x = beforeE y x) := by unfold Hid aheadE; rw [hpe]
      clear hj hy hpe
      have m0 := cell_up z0
      have m1 := cell_up z1
      have m2 := cell_up z2
      have m3 := cell_up z3
      have n0 := cell_up t0
      have n1 := cell_up t1
      have n2 := cell_up t2
      have n3 := cell_up t3
      clear z0 z1 z2 z3 t0 t1 t2 t3
      have HQ : Hid (∀ x', beforeE y x = x' → ∀ W : World, Calls Try.prog 47 #[.agg #[.string y.key, .int .i64 y.seq, .int .i64 y.kind, .string y.val], .agg #[.string x.key, .int .i64 x.seq, .int .i64 x.kind, .string x.val]] W fun e w' => e = .returned (.bool x') ∧ Below W.heap.size W w') := fun x' h W => beforeP y x x' h W
      cases hbf : beforeE y x
      · have HR : Hid (ascT none l = false) := by unfold Hid; rw [HK.out, HO.out, HAH.out, hbf]; rfl
        have HQ2 := (show Hid _ from HQ.out false hbf)
        clear HQ hbf
        go_wp2_with fail
        refine wp_region_up (by kernel_rfl) (by kernel_rfl) ?_
        repeat (quiet_step (first | (go_at_call 47; refine calls_up (HQ2.out _))))
        refine wpQuiet_nil ?_
        intro _ hw'
        obtain ⟨p, hw''⟩ := hw'
        subst hw''
        go_wp2_with fail
        go_ret
        exact ⟨ret_bool HR.out.symm, up_trans HB.out p.up⟩
      · have HR : Hid (ascT none l = ascT (prevE l (k + 1)) (l.drop (k + 1))) := by unfold Hid; rw [HK.out, HO.out, HAH.out, hbf]; rfl
        have HQ2 := (show Hid _ from HQ.out true hbf)
        clear HQ hbf
        go_wp2_with fail
        refine wp_region_up (by kernel_rfl) (by kernel_rfl) ?_
        repeat (quiet_step (first | (go_at_call 47; refine calls_up (HQ2.out _))))
        refine wpQuiet_nil ?_
        intro _ hw'
        obtain ⟨p, hw''⟩ := hw'
        subst hw''
        go_wp2_with fail
        exact ⟨⟨k + 1, by omega, .inl (by omega), by go_num, HR, up_trans HB.out p.up⟩, by simp [intOf]; omega⟩
    · have hlt' : ¬ (k : Int) < (l.length : Int) := by omega
      go_wp2_with fail
      go_ret
      refine ⟨ret_bool ?_, HB.out⟩
      rw [HK.out, ascT_end l k _ (by omega)]
end Go.Proofs.Ytekoniaobmapdaa
