/- Texts of layers 1 to 13, in this order. -/
import Derived.Test.YthiegmhplnbdlaaGreatG37
import Derived.Test.YthiegmhplnbdlaaGreatG36

namespace Go.Proofs.YthiegmhplnbdlaaGreat
open Go.RowKit Go.Shelf
set_option linter.unusedVariables false
set_option linter.unusedSimpArgs false
set_option maxRecDepth 100000
attribute [local go_sem] Oper.semAt_some wide_fn
def srowQ (u : Value) : List Value := [u]
def RunsR (w : World) (v : Value) (runs : List (List En)) : Prop := ∃ us : List Value, Rws 1 w v (us.map srowQ) ∧ us.length = runs.length ∧ ∀ (i : Nat) (u : Value) (r : List En), us[i]? = some u → runs[i]? = some r → EntsR w u r
theorem RunsR.up {w w' : World} {v : Value} {runs : List (List En)} (h : RunsR w v runs) (hb : Below w.heap.size w w') : RunsR w' v runs := by
  obtain ⟨us, h1, h2, h3⟩ := h
  exact ⟨us, Rws.up h1 hb, h2, fun i u r hu hr => (h3 i u r hu hr).up hb⟩
theorem RunsR.len {w : World} {v : Value} {runs : List (List En)} (h : RunsR w v runs) : ∃ a cap, v = .slice a runs.length cap ∧ runs.length ≤ cap ∧ cap ≤ maxLen := by
  obtain ⟨us, h1, h2, h3⟩ := h
  obtain ⟨a, c, e, q1, q2⟩ := Rws.len h1
  rw [List.length_map, h2] at e q1
  exact ⟨a, c, e, q1, q2⟩
theorem RunsR.at {w : World} {v : Value} {runs : List (List En)} (h : RunsR w v runs) (k : Nat) (hk : k < runs.length) :
    ∃ b off cap a c r, v = .slice (some ⟨b, off, none⟩) runs.length cap ∧ runs[k]? = some r ∧ w.cell? ⟨b, off + k, none⟩ = some (.slice a r.length c) ∧ EntsR w (.slice a r.length c) r := by
  obtain ⟨us, h1, h2, h3⟩ := h
  obtain ⟨b, off, cap, e, _, _, hc⟩ := Rws.at h1 k (by rw [List.length_map]; omega)
  rw [List.length_map, h2] at e
  have hu : us[k]? = some us[k] := List.getElem?_eq_getElem (by omega)
  have hr : runs[k]? = some runs[k] := List.getElem?_eq_getElem hk
  have hE := h3 k _ _ hu hr
  obtain ⟨a, c, ev, _⟩ := hE.len
  have := hc 0 us[k] (by
    rw [List.getD_eq_getElem?_getD, List.getElem?_map, hu]
    rfl)
  rw [ev] at this hE
  exact ⟨b, off, cap, a, c, runs[k], e, hr, by simpa using this, hE⟩
def sumL (runs : List (List En)) : Nat := (runs.map List.length).sum
theorem sumL_take (runs : List (List En)) (k : Nat) (r : List En) (hr : runs[k]? = some r) : sumL (runs.take (k + 1)) = sumL (runs.take k) + r.length := by
  unfold sumL
  rw [List.take_add_one, hr, List.map_append, List.sum_append]
  simp
theorem sumL_le (runs : List (List En)) (k m : Nat) (hb : ∀ r ∈ runs, r.length ≤ m) : sumL (runs.take k) ≤ k * m := by
  induction k with
  | zero => simp [sumL]
  | succ k ih =>
    cases hr : runs[k]? with
    | none =>
      rw [List.take_of_length_le (by have := List.getElem?_eq_none_iff.1 hr; omega)]
      rw [List.take_of_length_le (by have := List.getElem?_eq_none_iff.1 hr; omega)] at ih
      rw [Nat.succ_mul]
      omega
    | some r =>
      rw [sumL_take runs k r hr, Nat.succ_mul]
      have := hb r (List.mem_of_getElem? hr)
      omega
set_option maxHeartbeats 1000000 in
theorem versionsIn_any (runs : List (List En)) (a : Option Addr) (n c : Nat) (w : World) (hv : RunsR w (.slice a n c) runs) (h64 : runs.length ≤ 64) (hb : ∀ r ∈ runs, r.length ≤ 2932031007402) :
    Calls Tryz.prog 58 #[.slice a n c] w fun e w' => e = .returned (.int .i64 (sumL runs : Int)) ∧ w' = w := by
  have HV := hid hv
  have HBB := hid hb
  obtain ⟨a1, c1, e1, hc, hm⟩ := hv.len
  simp only [Value.slice.injEq] at e1
  obtain ⟨rfl, hn, rfl⟩ := e1
  subst hn
  clear hv hb
  go_enter Tryz.func58, Tryz.ntmps58
  go_wp2_with fail
  go_loopw [8, 3] (fun i s wr => ∃ (k m : Nat), k ≤ runs.length ∧ i = .int .i64 k ∧ s = .int .i64 m ∧ Hid (m = sumL (runs.take k)) ∧ wr = w) (fun i _ _ => runs.length - (intOf i).toNat)
  case atStart => exact ⟨0, 0, Nat.zero_le _, rfl, rfl, by simp [Hid, sumL], rfl⟩
  case round =>
    obtain ⟨k, m, hk, rfl, rfl, HM, rfl⟩ := hrel
    by_cases hlt : k < runs.length
    · have hlt' : (k : Int) < (runs.length : Int) := by omega
      obtain ⟨b, off, cap, ra, rc, r, e, hr, z0, _⟩ := HV.out.at k hlt
      simp only [Value.slice.injEq] at e
      obtain ⟨rfl, _, rfl⟩ := e
      have HS : Hid (sumL (runs.take (k + 1)) = sumL (runs.take k) + r.length) := sumL_take runs k r hr
      have hml : m ≤ 187649984473728 := by
        rw [HM.out]
        have h1 := sumL_le runs k 2932031007402 HBB.out
        have h2 : k ≤ 64 := by omega
        omega
      have hrl := HBB.out r (List.mem_of_getElem? hr)
      have hwm : IntKind.i64.wrap ((m : Int) + (r.length : Int)) = (m : Int) + (r.length : Int) := by rw [IntKind.wrap_i64]; omega
      clear hr
      go_wp2_with fail
      exact ⟨⟨k + 1, m + r.length, by omega, by go_num, by go_num, by unfold Hid; rw [HS.out, HM.out], trivial⟩, by simp [intOf]; omega⟩
    · have hlt' : ¬ (k : Int) < (runs.length : Int) := by omega
      obtain rfl : k = runs.length := by omega
      have HE : Hid ((m : Int) = (sumL runs : Int)) := by
        unfold Hid
        rw [HM.out, List.take_length]
      clear HM
      go_wp2_with fail
      go_ret
      exact ⟨ret_int HE.out, rfl⟩
theorem notw_snoc {T : List En} {x : En} (h : NoTw T) (h0 : cntT T x = 0) : NoTw (T ++ [x]) := by
  unfold NoTw at *
  rw [List.pairwise_append]
  refine ⟨h, List.pairwise_singleton _ _, fun a ha b hb => ?_⟩
  simp only [List.mem_singleton] at hb
  subst hb
  intro ht
  have : 0 < cntT T b := cntT_pos.2 ⟨a, ha, by unfold twin; simp only [Bool.and_eq_true, beq_iff_eq, decide_eq_true_eq]; exact ⟨ht.1.symm, ht.2.symm⟩⟩
  omega
theorem notw_hit {A B : List En} {x : En} (h : 0 < cntT A x) : ¬ NoTw (A ++ x :: B) := by
  intro q
  obtain ⟨y, hy, ht⟩ := cntT_pos.1 h
  unfold NoTw at q
  rw [List.pairwise_append] at q
  have := q.2.2 y hy x List.mem_cons_self
  unfold twin at ht
  simp only [Bool.and_eq_true, beq_iff_eq, decide_eq_true_eq] at ht
  exact this ⟨ht.1.symm, ht.2.symm⟩
theorem flat_at2 (runs : List (List En)) (k i : Nat) (r : List En) (x : En) (hr : runs[k]? = some r) (hx : r[i]? = some x) : runs.flatten = ((runs.take k).flatten ++ r.take i) ++ x :: (r.drop (i + 1) ++ (runs.drop (k + 1)).flatten) := by
  have h1 := List.getElem?_eq_some_iff.1 hr
  have h2 := List.getElem?_eq_some_iff.1 hx
  have e1 : runs = runs.take k ++ r :: runs.drop (k + 1) := by rw [← h1.2, ← List.drop_eq_getElem_cons h1.1, List.take_append_drop]
  have e2 : r = r.take i ++ x :: r.drop (i + 1) := by rw [← h2.2, ← List.drop_eq_getElem_cons h2.1, List.take_append_drop]
  conv => lhs; rw [e1, List.flatten_append, List.flatten_cons, e2]
  simp
theorem flat_take_len (runs : List (List En)) (k : Nat) : (runs.take k).flatten.length ≤ runs.flatten.length := by
  conv => rhs; rw [← List.take_append_drop k runs, List.flatten_append, List.length_append]
  omega
def TwiE (runs : List (List En)) (w : World) (e : Ending) (w' : World) : Prop := ∃ q : Bool, e = .returned (.bool q) ∧ (q = true ↔ ¬ NoTw runs.flatten) ∧ Below w.heap.size w w'
theorem twi_end {runs : List (List En)} {w w' : World} {q : Bool} (h : q = true ↔ ¬ NoTw runs.flatten) (hb : Below w.heap.size w w') : TwiE runs w (.returned (.bool q)) w' := ⟨q, rfl, h, hb⟩
set_option maxHeartbeats 8000000 in
theorem anyTwice_any (runs : List (List En)) (a : Option Addr) (n c : Nat) (w : World) (hv : RunsR w (.slice a n c) runs) (hmay : ∀ x ∈ runs.flatten, mayE x = true) (hsum : runs.flatten.length ≤ 65536) :
    Calls Tryz.prog 59 #[.slice a n c] w fun e w' => TwiE runs w e w' := by
  have HV := hid hv
  have HMY := hid hmay
  obtain ⟨a1, c1, e1, hc, hm⟩ := hv.len
  simp only [Value.slice.injEq] at e1
  obtain ⟨rfl, hn, rfl⟩ := e1
  subst hn
  have h63 : runs.length ≤ 9223372036854775807 := by unfold maxLen at hm; omega
  clear hv hmay
  have M0 : Hid (MapW (w.alloc (.map #[] 0)) w.heap.size []) := MapW.made w
  have U0 : Hid (Below w.heap.size w (w.alloc (.map #[] 0))) := up_alloc _ _
  refine (callsIn_wide (n := 9)).1 ?_
  refine callsIn_of_wp Tryz.func59 rfl trivial ?_ rfl
  simp only [Tryz.ntmps59, List.size_toArray, List.length_cons, List.length_nil, Nat.reduceAdd, Nat.reduceSub, Array.replicate_succ, Array.replicate_zero, List.push_toArray, List.append_toArray, List.nil_append, List.cons_append]
  have hmm := @run_makeMap Tryz.prog
  gi_wp2_with fail
  gi_loopw [12] (fun i wr => ∃ k : Nat, k ≤ runs.length ∧ i = .int .i64 k ∧ Hid (MapW wr w.heap.size (runs.take k).flatten) ∧ Hid (NoTw (runs.take k).flatten) ∧ Hid (Below w.heap.size w wr)) (fun i _ => runs.length - (intOf i).toNat)
  case atStart => exact ⟨0, Nat.zero_le _, rfl, M0, List.Pairwise.nil, U0⟩
  case round =>
    obtain ⟨k, hk, rfl, HM, HN, HB⟩ := hrel
    clear M0 U0
    by_cases hlt : k < runs.length
    · have hlt' : (k : Int) < (runs.length : Int) := by omega
      obtain ⟨b, off, cap, ra, rc, r, e, hr, z0w, hE⟩ := HV.out.at k hlt
      simp only [Value.slice.injEq] at e
      obtain ⟨rfl, _, rfl⟩ := e
      have z0 := (HB.out.cell (World.block_lt_of_cell? _ _ z0w)).trans z0w
      have HR := hid hr
      have HFS : Hid ((runs.take (k + 1)).flatten = (runs.take k).flatten ++ r) := by
        unfold Hid
        rw [List.take_add_one, hr, List.flatten_append]
        simp
      have HRE : Hid (EntsR w (.slice ra r.length rc) r) := hE
      have hrl : r.length ≤ 65536 := by
        have h1 := congrArg List.length HFS.out
        rw [List.length_append] at h1
        have h2 := flat_take_len runs (k + 1)
        omega
      have HM0 : Hid (MapW wr w.heap.size ((runs.take k).flatten ++ r.take 0)) := by simpa [Hid] using HM.out
      have HN0 : Hid (NoTw ((runs.take k).flatten ++ r.take 0)) := by simpa [Hid] using HN.out
      have HB0 := HB
      clear hr hE HM HN HB z0w
      gi_wp2_with fail
      gi_loopw [18] (fun i wr => ∃ j : Nat, j ≤ r.length ∧ i = .int .i64 j ∧ Hid (MapW wr w.heap.size ((runs.take k).flatten ++ r.take j)) ∧ Hid (NoTw ((runs.take k).flatten ++ r.take j)) ∧ Hid (Below w.heap.size w wr)) (fun i _ => r.length - (intOf i).toNat)
      case atStart => exact ⟨0, Nat.zero_le _, rfl, HM0, HN0, HB0⟩
      case round =>
        obtain ⟨j, hj, rfl, HM, HN, HB⟩ := hrel
        clear HM0 HN0 HB0 z0
        by_cases hlj : j < r.length
        · have hlj' : (j : Int) < (r.length : Int) := by omega
          obtain ⟨b2, off2, cap2, x, e, hx, z0, z1, z2, z3⟩ := (HRE.out.up HB.out).at j hlj
          simp only [Value.slice.injEq] at e
          obtain ⟨rfl, _, rfl⟩ := e
          have HFL := hid (flat_at2 runs k j r x HR.out hx)
          have HMX : Hid (mayE x = true) := HMY.out x (by rw [HFL.out]; simp)
          have HTK : Hid ((runs.take k).flatten ++ r.take (j + 1) = ((runs.take k).flatten ++ r.take j) ++ [x]) := by
            unfold Hid
            rw [List.take_add_one, hx]
            simp
          have HTL : Hid (((runs.take k).flatten ++ r.take j).length ≤ 65536) := by
            have h1 := congrArg List.length HFL.out
            simp only [List.length_append, List.length_cons] at h1
            unfold Hid
            rw [List.length_append]
            omega
          clear hx
          generalize (runs.take k).flatten ++ r.take j = T at *
          obtain ⟨W7, hW7⟩ : ∃ W7, W7 = wr.alloc (.cells #[.string x.key, .int .i64 x.seq, .int .i64 x.kind, .string x.val] 50) := ⟨_, rfl⟩
          have HW7 : Hid (wr.alloc (.cells #[.string x.key, .int .i64 x.seq, .int .i64 x.kind, .string x.val] 50) = W7) := hW7.symm
          have UB : Hid (Below wr.heap.size wr W7) := by rw [hW7]; exact up_alloc _ _
          have HST : Hid (Calls Tryz.prog 86 #[.agg #[.string x.key, .int .i64 x.seq, .int .i64 x.kind, .string x.val]] (wr.alloc (.cells #[.string x.key, .int .i64 x.seq, .int .i64 x.kind, .string x.val] 50)) fun e w1 => e = .returned (.agg #[.string x.key, .int .i64 x.seq]) ∧ (∀ o, (Instr.lookup 160 (.map (some w.heap.size)) (.agg #[.string x.key, .int .i64 x.seq]) false).run Tryz.prog (w1.alloc o) = .ok (.int .i64 (cntT T x : Int)) (w1.alloc o)) ∧ Hid (Below wr.heap.size wr w1)) := by
            refine (stampOf_any x _).mono ?_
            rintro e w1 ⟨rfl, hw⟩
            have hb : Below wr.heap.size wr w1 := by rw [hw]; exact up_al (up_al (up_alloc _ _) _) _
            exact ⟨rfl, fun o => ((HM.out.up hb).up (up_alloc _ _)).look HMX.out, hb⟩
          clear hW7 HW7 UB
          gi_wp2_with fail
          refine (callsIn_wide.2 HST.out).mono ?_
          rintro e w1 ⟨rfl, hlk, u1⟩
          clear HST
          by_cases hp : 0 < cntT T x
          · have hp' : (0 : Int) < (cntT T x : Int) := by omega
            have HE : Hid (∀ q : Bool, q = true → (q = true ↔ ¬ NoTw runs.flatten)) := fun q hq => ⟨(fun _ => by rw [HFL.out]; exact notw_hit hp), (fun _ => hq)⟩
            gi_wp2_with fail
            refine bodyPost_ret (results_tmp (t := 2) rfl _ _ _) rfl ?_
            exact twi_end (HE.out true rfl) (up_al (up_trans HB.out u1.out) _)
          · have hp' : ¬ (0 : Int) < (cntT T x : Int) := by omega
            have HN1 : Hid (NoTw (T ++ [x])) := notw_snoc HN.out (by omega)
            have HMD : Hid (MapW (w1.alloc (.cells #[.string x.key, .int .i64 x.seq] 162)).drew w.heap.size T) := ((HM.out.up u1.out).up (up_alloc _ _)).up (up_drw _)
            obtain ⟨v0, st, w2, w3, e1, hl2, e3, h3, g3⟩ := HMD.out.inc HMX.out
            have hl1 : (Instr.lookup 160 (.map (some w.heap.size)) (.agg #[.string x.key, .int .i64 x.seq]) false).run Tryz.prog (w1.alloc (.cells #[.string x.key, .int .i64 x.seq] 162)).drew = .ok (.int .i64 (cntT T x : Int)) (w1.alloc (.cells #[.string x.key, .int .i64 x.seq] 162)).drew := HMD.out.look HMX.out
            have HB3 : Hid (MapW w3 w.heap.size (T ++ [x]) ∧ Below w.heap.size w w3) := by
              refine ⟨h3, ?_⟩
              have u : Below w.heap.size w (w1.alloc (.cells #[.string x.key, .int .i64 x.seq] 162)).drew := up_trans (up_al (up_trans HB.out u1.out) _) (up_drw _)
              exact u.grown g3 u.size (fun q hq => by injection hq with hq; omega)
            have hwc : IntKind.i64.wrap ((cntT T x : Int) + 1) = (cntT T x : Int) + 1 := by
              have h1 := cntT_le T x
              have h2 := HTL.out
              rw [IntKind.wrap_i64]
              omega
            clear h3 g3
            gi_wp2_with fail
            refine wpIn_cut [28, 29, 30, 31, 32, 33] (fun W => W = w3) ?reg ?cont
            case reg =>
              refine wpIn_region_any (by kernel_rfl) ?_
              change wpAnyIn _ _ _ _ _ _ _ _ _ (World.drew _)
              refine wpAnyIn_take (i := 0) (v := ?v1) rfl rfl (by kernel_rfl) (by kernel_rfl) (by kernel_rfl) (fun _ _ _ h => by cases h.1) ⟨Or.inl ⟨by rfl, ?y1⟩, fun _ => rfl⟩ ?_
              case y1 => (intro w; go_simp; try with_reducible rfl)
              refine wpAnyIn_ready (rs := [1]) (by kernel_rfl) (by simp) ?_
              refine AllReadyIn.cons rfl (fun K hK => ?_) AllReadyIn.nil
              go_simp
              refine hK _ _ ?_
              clear hK K
              refine wpAnyIn_ready (rs := [2, 4]) (by kernel_rfl) (by simp) ?_
              refine AllReadyIn.cons rfl (fun K hK => ?_) (AllReadyIn.cons rfl (fun K hK => ?_) AllReadyIn.nil)
              · skip
                go_simp
                refine hK _ _ ?_
                clear hK K
                refine wpAnyIn_take (i := 3) (v := ?v2) rfl rfl (by kernel_rfl) (by kernel_rfl) (by kernel_rfl) (fun _ _ _ h => by cases h.1) ⟨Or.inl ⟨by rfl, ?y2⟩, fun _ => rfl⟩ ?_
                case y2 => (intro w; go_simp; try with_reducible rfl)
                refine wpAnyIn_ready (rs := [4]) (by kernel_rfl) (by simp) ?_
                refine AllReadyIn.cons rfl (fun K hK => ?_) AllReadyIn.nil
                go_simp
                refine hK _ _ ?_
                clear hK K
                refine wpAnyIn_take (i := 5) (v := ?v3) rfl rfl (by kernel_rfl) (by kernel_rfl) (by kernel_rfl) (fun _ _ _ h => by cases h.1) ⟨Or.inl ⟨by rfl, ?y3⟩, fun _ => rfl⟩ ?_
                case y3 => (intro w; go_simp; try with_reducible rfl)
                refine wpAnyIn_ready (rs := [6]) (by kernel_rfl) (by simp) ?_
                refine AllReadyIn.cons rfl (fun K hK => ?_) AllReadyIn.nil
                go_simp
                refine hK _ _ ?_
                clear hK K
                refine wpAnyIn_done (by kernel_rfl) ?_ _
                refine ⟨rfl, ⟨.map (some w.heap.size), .agg #[.string x.key, .int .i64 x.seq], .int .i64 (cntT T x : Int), .int .i64 ((cntT T x : Int) + 1), .tuple #[v0, .int .i64 (st : Int)], .int .i64 (st : Int), ?_⟩, rfl⟩
                simp only [PutIn, Act.put, List.setIfInBounds_toArray, List.set_cons_zero, List.set_cons_succ]
              · skip
                go_simp
                refine hK _ _ ?_
                clear hK K
                refine wpAnyIn_take (i := 5) (v := ?v4) rfl rfl (by kernel_rfl) (by kernel_rfl) (by kernel_rfl) (fun _ _ _ h => by cases h.1) ⟨Or.inl ⟨by rfl, ?y4⟩, fun _ => rfl⟩ ?_
                case y4 => (intro w; go_simp; try with_reducible rfl)
                refine wpAnyIn_ready (rs := [2]) (by kernel_rfl) (by simp) ?_
                refine AllReadyIn.cons rfl (fun K hK => ?_) AllReadyIn.nil
                go_simp
                refine hK _ _ ?_
                clear hK K
                refine wpAnyIn_take (i := 3) (v := ?v5) rfl rfl (by kernel_rfl) (by kernel_rfl) (by kernel_rfl) (fun _ _ _ h => by cases h.1) ⟨Or.inl ⟨by rfl, ?y5⟩, fun _ => rfl⟩ ?_
                case y5 => (intro w; go_simp; try with_reducible rfl)
                refine wpAnyIn_ready (rs := [6]) (by kernel_rfl) (by simp) ?_
                refine AllReadyIn.cons rfl (fun K hK => ?_) AllReadyIn.nil
                go_simp
                refine hK _ _ ?_
                clear hK K
                refine wpAnyIn_done (by kernel_rfl) ?_ _
                refine ⟨rfl, ⟨.map (some w.heap.size), .agg #[.string x.key, .int .i64 x.seq], .int .i64 (cntT T x : Int), .int .i64 ((cntT T x : Int) + 1), .tuple #[v0, .int .i64 (st : Int)], .int .i64 (st : Int), ?_⟩, rfl⟩
                simp only [PutIn, Act.put, List.setIfInBounds_toArray, List.set_cons_zero, List.set_cons_succ]
            case cont =>
              rintro a' W9 ⟨x28, x29, x30, x31, x32, x33, rfl⟩ rfl
              simp only [Act.put, List.setIfInBounds_toArray, List.set_cons_zero, List.set_cons_succ]
              rw [← HTK.out] at HB3 HN1
              clear e1 hl2 e3 hl1 hlk hwc
              gi_wp2_with fail
              exact ⟨⟨j + 1, by omega, by go_num, HB3.out.1, HN1, HB3.out.2⟩, by simp [intOf]; omega⟩
        · have hlj' : ¬ (j : Int) < (r.length : Int) := by omega
          obtain rfl : j = r.length := by omega
          rw [List.take_length, ← HFS.out] at HM HN
          gi_wp2_with fail
          exact ⟨⟨k + 1, by omega, by go_num, HM, HN, HB⟩, by simp [intOf]; omega⟩
    · have hlt' : ¬ (k : Int) < (runs.length : Int) := by omega
      obtain rfl : k = runs.length := by omega
      rw [List.take_length] at HN
      have HE : Hid (∀ q : Bool, q = false → (q = true ↔ ¬ NoTw runs.flatten)) := fun q hq => ⟨(fun h => by rw [hq] at h; cases h), (fun h => absurd HN.out h)⟩
      gi_wp2_with fail
      refine bodyPost_ret (results_tmp (t := 2) rfl _ _ _) rfl ?_
      exact twi_end (HE.out false rfl) HB.out
end Go.Proofs.YthiegmhplnbdlaaGreat

namespace Go.Proofs.YthiegmhplnbdlaaGreat
open Go.RowKit
set_option linter.unusedVariables false
set_option linter.unusedSimpArgs false
def ordC (a b : En) : Int := if beforeE a b = true then -1 else if beforeE b a = true then 1 else 0
theorem ordC_lt (a b : En) : decide (ordC a b < 0) = beforeE a b := by
  unfold ordC
  cases h : beforeE a b
  · simp only [Bool.false_eq_true, if_false]
    split <;> decide
  · simp
def ordW (a b : En) (w : World) : World := if beforeE a b = true then (((w.alloc (enObj a)).alloc (enObj b)).alloc (enObj a)).alloc (enObj b) else (((((w.alloc (enObj a)).alloc (enObj b)).alloc (enObj a)).alloc (enObj b)).alloc (enObj b)).alloc (enObj a)
theorem beforeX (a b : En) (x : Bool) (h : beforeE a b = x) (w : World) : Calls Tryz.prog 33 #[.agg #[.string a.key, .int .i64 a.seq, .int .i64 a.kind, .string a.val], .agg #[.string b.key, .int .i64 b.seq, .int .i64 b.kind, .string b.val]] w fun e w' => e = .returned (.bool x) ∧ w' = (w.alloc (enObj a)).alloc (enObj b) := by
  subst h
  exact before_any a b w
set_option maxHeartbeats 1000000 in
set_option maxRecDepth 100000 in
theorem order_any (a b : En) (w : World) : Calls Tryz.prog 61 #[enV a, enV b] w fun e w' => e = .returned (.int .i64 (ordC a b)) ∧ w' = ordW a b w := by
  have HQ := hid (fun x h W => beforeX a b x h W)
  have HP := hid (fun x h W => beforeX b a x h W)
  have HC : Hid (ordC a b = if beforeE a b = true then -1 else if beforeE b a = true then 1 else 0) := rfl
  have HW : Hid (∀ w, ordW a b w = if beforeE a b = true then (((w.alloc (enObj a)).alloc (enObj b)).alloc (enObj a)).alloc (enObj b) else (((((w.alloc (enObj a)).alloc (enObj b)).alloc (enObj a)).alloc (enObj b)).alloc (enObj b)).alloc (enObj a)) := fun _ => rfl
  unfold enObj at HQ HP
  unfold enV
  cases h1 : beforeE a b
  · have HQ1 := hid (HQ.out false h1)
    rw [h1] at HC HW
    simp only [Bool.false_eq_true, if_false] at HC HW
    cases h2 : beforeE b a
    · have HP1 := hid (HP.out false h2)
      rw [h2] at HC
      simp only [Bool.false_eq_true, if_false] at HC
      go_enter Tryz.func61, Tryz.ntmps61
      go_wp2_with fail
      refine (HQ1.out _).mono ?_
      rintro e w1 ⟨rfl, rfl⟩
      go_wp2_with fail
      refine (HP1.out _).mono ?_
      rintro e w1 ⟨rfl, rfl⟩
      go_wp2_with fail
      go_ret
      exact ⟨ret_int HC.out.symm, (HW.out w).symm⟩
    · have HP1 := hid (HP.out true h2)
      rw [h2] at HC
      simp only [if_true] at HC
      go_enter Tryz.func61, Tryz.ntmps61
      go_wp2_with fail
      refine (HQ1.out _).mono ?_
      rintro e w1 ⟨rfl, rfl⟩
      go_wp2_with fail
      refine (HP1.out _).mono ?_
      rintro e w1 ⟨rfl, rfl⟩
      go_wp2_with fail
      go_ret
      exact ⟨ret_int HC.out.symm, (HW.out w).symm⟩
  · have HQ1 := hid (HQ.out true h1)
    rw [h1] at HC HW
    simp only [if_true] at HC HW
    go_enter Tryz.func61, Tryz.ntmps61
    go_wp2_with fail
    refine (HQ1.out _).mono ?_
    rintro e w1 ⟨rfl, rfl⟩
    go_wp2_with fail
    go_ret
    exact ⟨ret_int HC.out.symm, (HW.out w).symm⟩
end Go.Proofs.YthiegmhplnbdlaaGreat
