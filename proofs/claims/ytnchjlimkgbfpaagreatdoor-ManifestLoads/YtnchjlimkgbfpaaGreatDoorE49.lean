/- The texts HOrd, HOrf, in this order. -/
import Derived.Test.YtnchjlimkgbfpaaGreatDoorE48
import Derived.Test.YtnchjlimkgbfpaaGreatDoorE21
import Derived.Deep.Cut

namespace Go.Proofs.YtnchjlimkgbfpaaGreatDoor
open Go.RowKit
set_option linter.unusedVariables false
set_option linter.unusedSimpArgs false
def NamL (l : List (List Int)) : Prop := ∀ x ∈ l, (∀ y ∈ x, 0 ≤ y ∧ y ≤ 255) ∧ x.length ≤ 140737488355328
def IdxN (l : List (List Int)) (p : List Int → Bool) (r : Int) : Prop := (r = -1 ∧ ∀ y ∈ l, p y = false) ∨ ∃ k : Nat, k < l.length ∧ r = (k : Int) ∧ (∀ y ∈ l.take k, p y = false) ∧ p (l.getD k []) = true
theorem srow_at {w : World} {v : Value} {l : List (List Int)} (h : Rws 1 w v (l.map srow)) (k : Nat) (hk : k < l.length) : ∃ b off cap, v = .slice (some ⟨b, off, none⟩) l.length cap ∧ w.cell? ⟨b, off + k, none⟩ = some (.string (strOfNums (l.getD k []))) := by
  obtain ⟨b, off, cap, e, _, _, hc⟩ := h.at k (by simpa using hk)
  have hg : (l.map srow).getD k [] = srow (l.getD k []) := by simp [List.getD, hk]
  rw [hg] at hc
  have c0 := hc 0 _ rfl
  simp only [Nat.mul_one, Nat.add_zero] at c0
  rw [List.length_map] at e
  exact ⟨b, off, cap, e, c0⟩
set_option maxHeartbeats 2000000 in
set_option maxRecDepth 20000 in
theorem indexN_any (l : List (List Int)) (hl : NamL l) (v : Value) (NN NL b : Nat) (needs : List (List Int)) (log : Int) (B : Nat) (w : World) (hv : Rws 1 w v (l.map srow)) (h : OrpW B w NN NL b needs log) :
    Calls Tryz.prog 102 #[v, .func (.func 60) #[] #[.pointer (some ⟨NN, 0, none⟩), .pointer (some ⟨NL, 0, none⟩)]] w fun e w' => ∃ r, e = .returned (.int .i64 r) ∧ Hid (IdxN l (nedB needs log) r) ∧ Hid (Below w.heap.size w w') := by
  have HV : Hid (Rws 1 w v (l.map srow) ∧ OrpW B w NN NL b needs log ∧ NamL l) := ⟨hv, h, hl⟩
  obtain ⟨a, cap, rfl, hcap, hmax⟩ := hv.len
  rw [List.length_map] at *
  clear hv h hl
  unfold maxLen at hmax
  go_enter Tryz.func102, Tryz.ntmps102
  go_wp2_with fail
  go_loopw [8] (fun i wr => ∃ k : Nat, k ≤ l.length ∧ i = .int .i64 k ∧ Hid (∀ y ∈ l.take k, nedB needs log y = false) ∧ Hid (Below w.heap.size w wr)) (fun i _ => l.length - (intOf i).toNat)
  case atStart => exact ⟨0, Nat.zero_le _, rfl, by simp [Hid], Below.refl _ _⟩
  case round =>
    obtain ⟨k, hk, rfl, HK, up⟩ := hrel
    by_cases hlt : k < l.length
    · have hlt' : (k : Int) < (l.length : Int) := by omega
      obtain ⟨b2, off, cap', e, c0⟩ := srow_at (HV.out.1.up up.out) k hlt
      simp at e
      obtain ⟨rfl, rfl⟩ := e
      have hmem : l.getD k [] ∈ l := by
        rw [List.getD_eq_getElem?_getD, List.getElem?_eq_getElem hlt]
        exact List.getElem_mem _
      have HT : Hid (l.take (k + 1) = l.take k ++ [l.getD k []]) := take_snoc l k _ hlt
      have HC := hid (orp1_any (l.getD k []) (HV.out.2.2 _ hmem).1 (HV.out.2.2 _ hmem).2 NN NL b needs log B wr (HV.out.2.1.up up.out))
      have HYk : Hid (nedB needs log (l.getD k []) = nedB needs log (l.getD k [])) := rfl
      clear hmem
      cases d : nedB needs log (l.getD k []) with
      | true =>
        have HM : Hid (IdxN l (nedB needs log) (k : Int)) := .inr ⟨k, hlt, rfl, HK.out, d⟩
        rw [d] at HC
        clear d HYk HT
        generalize l.getD k [] = y at *
        go_wp2_with fail
        refine HC.out.mono ?_
        rintro e w1 ⟨rfl, hb1⟩
        have up1 : Hid (Below w.heap.size w w1) := up_trans up.out hb1
        clear hb1
        go_wp2_with fail
        go_ret
        exact ⟨_, rfl, HM, up1⟩
      | false =>
        have HK2 : Hid (∀ y ∈ l.take (k + 1), nedB needs log y = false) := by
          unfold Hid
          rw [HT.out]
          intro z hz
          rcases List.mem_append.1 hz with q | q
          · exact HK.out z q
          · rw [List.mem_singleton] at q; rw [q]; exact d
        rw [d] at HC
        clear d HYk HT
        generalize l.getD k [] = y at *
        go_wp2_with fail
        refine HC.out.mono ?_
        rintro e w1 ⟨rfl, hb1⟩
        have up1 : Hid (Below w.heap.size w w1) := up_trans up.out hb1
        clear hb1
        go_wp2_with fail
        exact ⟨⟨k + 1, by omega, by go_num, HK2, up1⟩, by simp [intOf]; omega⟩
    · have hlt' : ¬ (k : Int) < (l.length : Int) := by omega
      obtain rfl : k = l.length := by omega
      have HM : Hid (IdxN l (nedB needs log) (-1)) := by
        refine .inl ⟨rfl, ?_⟩
        have := HK.out
        rwa [List.take_length] at this
      go_wp2_with fail
      go_ret
      exact ⟨_, rfl, HM, up⟩
def StrN (w : World) (base : Nat) (v : Value) (p : List Int → Bool) (m cur : List (List Int)) (i j : Nat) : Prop :=
  cur.length = m.length ∧ i = ((m.take j).filter p).length ∧ cur.take i = (m.take j).filter p ∧ cur.drop j = m.drop j ∧ OwnR w base 9 1 v (cur.map srow)
theorem strn_at {w : World} {base : Nat} {v : Value} {p : List Int → Bool} {m cur : List (List Int)} {i j : Nat} (h : StrN w base v p m cur i j) (hj : j < m.length) : cur.getD j [] = m.getD j [] := by
  have h1 := h.2.2.2.1
  have e := congrArg (fun l => l[0]?) h1
  simp only [List.getElem?_drop, Nat.add_zero] at e
  simp only [List.getD, e]
theorem strn_skip {w : World} {base : Nat} {v : Value} {p : List Int → Bool} {m cur : List (List Int)} {i j : Nat} (h : StrN w base v p m cur i j) (hj : j < m.length) (hp : p (m.getD j []) = false) : StrN w base v p m cur i (j + 1) := by
  obtain ⟨h1, h2, h3, h4, h5⟩ := h
  have e := filter_take_snoc p m j [] hj
  rw [hp] at e
  simp only [Bool.false_eq_true, if_false, List.append_nil] at e
  refine ⟨h1, by rw [e]; exact h2, by rw [e]; exact h3, ?_, h5⟩
  have := congrArg (List.drop 1) h4
  simpa [List.drop_drop] using this
theorem strn_keep {w w' : World} {base : Nat} {v : Value} {p : List Int → Bool} {m cur : List (List Int)} {i j : Nat} (h : StrN w base v p m cur i j) (hj : j < m.length) (hij : i < j) (hp : p (m.getD j []) = true)
    (hw : OwnR w' base 9 1 v ((cur.map srow).set i (srow (m.getD j [])))) : StrN w' base v p m (cur.set i (m.getD j [])) (i + 1) (j + 1) := by
  obtain ⟨h1, h2, h3, h4, h5⟩ := h
  have e := filter_take_snoc p m j [] hj
  rw [hp] at e
  simp only [if_true] at e
  refine ⟨by simpa using h1, by rw [e, List.length_append, ← h2]; rfl, ?_, ?_, ?_⟩
  · rw [e, ← h3]
    have hi : i < cur.length := by omega
    rw [take_snoc _ i [] (by simpa using hi), List.take_set_of_le (Nat.le_refl _)]
    congr 1
    simp [List.getD, hi]
  · rw [List.drop_set_of_lt (by omega)]
    have := congrArg (List.drop 1) h4
    simpa [List.drop_drop] using this
  · rw [List.map_set]
    exact hw
def stayB (needs : List (List Int)) (log : Int) (x : List Int) : Bool := !(nedB needs log x)
theorem zeroT (w : World) : (zeroValue 9).run Tryz.prog w = .ok (.string ⟨#[]⟩) w := by kernel_rfl
set_option maxHeartbeats 4000000 in
set_option maxRecDepth 100000 in
theorem orpDel_any (m : List (List Int)) (hl : NamL m) (v : Value) (NN NL b : Nat) (needs : List (List Int)) (log : Int) (base B : Nat) (w : World) (hv : OwnR w base 9 1 v (m.map srow)) (hlm : m.length ≤ 4398046511104) (h : OrpW B w NN NL b needs log)
    (hNN : ∀ g, v.ownBlock = some g → NN ≠ g ∧ NL ≠ g ∧ b ≠ g ∧ B ≤ g) :
    Calls Tryz.prog 59 #[v, .func (.func 60) #[] #[.pointer (some ⟨NN, 0, none⟩), .pointer (some ⟨NL, 0, none⟩)]] w fun e w' => ∃ a n c, e = .returned (.slice a n c) ∧ Hid (n = (m.filter (stayB needs log)).length) ∧ Hid (OwnR w' base 9 1 (.slice a n c) ((m.filter (stayB needs log)).map srow)) ∧ Hid (w.grownBy w' v.ownBlock) := by
  have HI := hid (indexN_any m hl v NN NL b needs log B w (Rws.own hv) h)
  have HV : Hid (OwnR w base 9 1 v (m.map srow) ∧ OrpW B w NN NL b needs log ∧ NamL m) := ⟨hv, h, hl⟩
  obtain ⟨a, cap, ev, hcap, hmax⟩ := (Rws.own hv).len
  rw [List.length_map] at ev hcap
  clear hv h hl
  unfold maxLen at hmax
  have hpo : ∀ y, nedB needs log y = !(stayB needs log y) := fun y => by unfold stayB; simp
  subst ev
  go_enter Tryz.func59, Tryz.ntmps59
  go_wp2_with fail
  refine HI.out.mono ?_
  rintro e w1 ⟨r, rfl, HX, up1⟩
  rcases HX.out with ⟨rfl, hall⟩ | ⟨k, hk, rfl, hall, htt⟩
  · have HF : Hid (m.filter (stayB needs log) = m) := List.filter_eq_self.2 fun y hy => by unfold stayB; rw [hall y hy]; rfl
    clear hall HX HI
    go_wp2_with fail
    go_ret
    refine ⟨_, _, _, rfl, ?_, ?_, grown_up up1.out _⟩
    · rw [HF.out]; rfl
    · rw [HF.out]
      exact HV.out.1.up up1.out
  · have hshape : ∃ g, a = some ⟨g, 0, none⟩ := by
      rcases HV.out.1.2.2 with ⟨e2, e3⟩ | ⟨g, cap', cur, e2, _⟩
      · rw [List.length_map] at e3; omega
      · simp at e2
        exact ⟨g, e2.1⟩
    obtain ⟨g, rfl⟩ := hshape
    have HNB : Hid (NN ≠ g ∧ NL ≠ g ∧ b ≠ g ∧ B ≤ g) := hNN g rfl
    have HSt : Hid (StrN w base (.slice (some ⟨g, 0, none⟩) m.length cap) (stayB needs log) m m k (k + 1)) := by
      have ef : (m.take (k + 1)).filter (stayB needs log) = m.take k := by
        rw [filter_take_snoc (stayB needs log) m k [] hk]
        unfold stayB at *
        rw [htt]
        simp only [Bool.not_true, Bool.false_eq_true, if_false, List.append_nil]
        refine List.filter_eq_self.2 fun y hy => ?_
        rw [hall y hy]; rfl
      exact ⟨rfl, by simp only [ef, List.length_take]; omega, by rw [ef], rfl, HV.out.1⟩
    have hk1 : ((k : Int) == -1) = false := by rw [beq_eq_false_iff_ne]; omega
    clear hall htt HI HX
    go_wp2_with fail
    go_loopw [5, 6] (fun si sj wr => ∃ (i j : Nat) (cur : List (List Int)), i < j ∧ j ≤ m.length ∧ si = .int .i64 i ∧ sj = .int .i64 j ∧ Hid (StrN wr base (.slice (some ⟨g, 0, none⟩) m.length cap) (stayB needs log) m cur i j) ∧ Hid (w.grownBy wr (some g)) ∧ Hid (OrpW B wr NN NL b needs log)) (fun _ j _ => m.length - (intOf j).toNat)
    case atStart =>
      obtain ⟨h1, h2, h3, h4, h5⟩ := HSt.out
      exact ⟨k, k + 1, m, by omega, by omega, rfl, by go_num, ⟨h1, h2, h3, h4, h5.up up1.out⟩, grown_up up1.out _, HV.out.2.1.up up1.out⟩
    case round =>
      clear HSt up1
      obtain ⟨i, j, cur, hij, hjm, rfl, rfl, HS, HG, HO1⟩ := hrel
      by_cases hlt : j < m.length
      · have hlt' : (j : Int) < (m.length : Int) := by omega
        have hcl := HS.out.1
        have hlc : (cur.map srow).length = m.length := by rw [List.length_map]; exact hcl
        have HO : Hid (OwnR wr base 9 1 (.slice (some ⟨g, 0, none⟩) m.length cap) (cur.map srow)) := HS.out.2.2.2.2
        have HAt : Hid (cur.getD j [] = m.getD j []) := strn_at HS.out hlt
        obtain ⟨b', off', cap', e2, c0⟩ := srow_at (Rws.own HO.out) j (by omega)
        simp at e2
        obtain ⟨⟨rfl, rfl⟩, -, rfl⟩ := e2
        rw [HAt.out] at c0
        simp only [Nat.zero_add] at c0
        obtain ⟨b', off', cap', e2, d0⟩ := srow_at (Rws.own HO.out) i (by omega)
        simp at e2
        obtain ⟨⟨rfl, rfl⟩, -, rfl⟩ := e2
        simp only [Nat.zero_add] at d0
        have fz : ∀ q, wr.frozen? ⟨g, q, none⟩ = false := fun q => by
          obtain ⟨cur', hh, _⟩ := HO.out.blk
          exact blk_frozen hh q
        have HSkip : Hid (stayB needs log (m.getD j []) = false → StrN wr base (.slice (some ⟨g, 0, none⟩) m.length cap) (stayB needs log) m cur i (j + 1)) := strn_skip HS.out hlt
        have HKeep : Hid (stayB needs log (m.getD j []) = true → ∀ w', OwnR w' base 9 1 (.slice (some ⟨g, 0, none⟩) m.length cap) ((cur.map srow).set i (srow (m.getD j []))) → StrN w' base (.slice (some ⟨g, 0, none⟩) m.length cap) (stayB needs log) m (cur.set i (m.getD j [])) (i + 1) (j + 1)) := fun h w' ho => strn_keep HS.out hlt hij h ho
        have hmem : m.getD j [] ∈ m := by
          rw [List.getD_eq_getElem?_getD, List.getElem?_eq_getElem hlt]
          exact List.getElem_mem _
        have hcl2 := hid (orp1_any (m.getD j []) (HV.out.2.2 _ hmem).1 (HV.out.2.2 _ hmem).2 NN NL b needs log B wr HO1.out)
        clear hmem
        generalize m.getD j [] = y at *
        have HPO : Hid (nedB needs log y = !(stayB needs log y)) := hpo y
        clear hpo
        cases hst : nedB needs log y with
        | true =>
          rw [hst] at hcl2
          have HS2 : Hid (StrN wr base (.slice (some ⟨g, 0, none⟩) m.length cap) (stayB needs log) m cur i (j + 1)) := HSkip.out (by have := HPO.out; rw [hst] at this; simpa using this.symm)
          clear hst
          go_wp2_with fail
          refine hcl2.out.mono ?_
          rintro e w1 ⟨rfl, hb1⟩
          have HS3 : Hid (StrN w1 base (.slice (some ⟨g, 0, none⟩) m.length cap) (stayB needs log) m cur i (j + 1)) := ⟨HS2.out.1, HS2.out.2.1, HS2.out.2.2.1, HS2.out.2.2.2.1, HS2.out.2.2.2.2.up hb1.out⟩
          have HO3 : Hid (OrpW B w1 NN NL b needs log) := HO1.out.up hb1.out
          have HG3 : Hid (w.grownBy w1 (some g)) := grown_trans HG.out (grown_up hb1.out _)
          clear hb1 hcl2 c0 d0 fz
          go_wp2_with fail
          exact ⟨⟨i, j + 1, cur, by omega, by omega, rfl, by go_num, HS3, HG3, HO3⟩, by simp [intOf]; omega⟩
        | false =>
          rw [hst] at hcl2
          have HYES : Hid (stayB needs log y = true) := by unfold Hid; have := HPO.out; rw [hst] at this; simpa using this.symm
          clear hst
          go_wp2_with fail
          refine hcl2.out.mono ?_
          rintro e w1 ⟨rfl, hb1⟩
          have up1 : Hid (Below wr.heap.size wr w1) := hb1
          have k0 := (up1.out.cell (World.block_lt_of_cell? wr _ d0)).trans d0
          have f0 := (up1.out.frozen (p := ⟨g, i, none⟩) (World.block_lt_of_cell? wr _ d0)).trans (fz _)
          have HO3 : Hid (OrpW B w1 NN NL b needs log) := HO1.out.up hb1.out
          have r3 := (HO.out.up up1.out).set hlc i (by omega) 0 (by decide) (.string (strOfNums y))
          have er : (((cur.map srow).getD i []).set 0 (Value.string (strOfNums y))) = srow y := by
            have : i < cur.length := by omega
            simp [List.getD, this, srow]
          rw [er] at r3
          simp only [Nat.mul_one, Nat.add_zero] at r3
          have HS3 := hid (HKeep.out HYES.out _ r3.1)
          have HG3 := hid (grown_trans (grown_trans HG.out (grown_up up1.out _)) r3.2.1)
          have HG4 : Hid (w1.grownBy (w1.setCell ⟨g, i, none⟩ (.string (strOfNums y))) (some g)) := r3.2.1
          have HO4 : Hid (OrpW B (w1.setCell ⟨g, i, none⟩ (.string (strOfNums y))) NN NL b needs log) := by
            obtain ⟨q1, q2, q3, q4⟩ := HO3.out
            refine ⟨HG4.out.cell q1 (fun q => HNB.out.1 (by simpa using q)), HG4.out.cell q2 (fun q => HNB.out.2.1 (by simpa using q)), q3.kept HG4.out (fun q => HNB.out.2.2.1 (by simpa using q)), q4.grown HG4.out HNB.out.2.2.2⟩
          have hii : (i : Int) < (m.length : Int) := by omega
          clear hb1 hcl2 c0 d0 fz r3
          go_wp2_with fail
          exact ⟨⟨i + 1, j + 1, _, by omega, by omega, by go_num, by go_num, HS3, HG3, HO4⟩, by simp [intOf]; omega⟩
      · have hlt' : ¬ (j : Int) < (m.length : Int) := by omega
        obtain rfl : j = m.length := by omega
        have hlc : (cur.map srow).length = m.length := by rw [List.length_map]; exact HS.out.1
        obtain ⟨cu, hh, hbg, hnc, hmx, hsz, _, _⟩ := HS.out.2.2.2.2.blk
        have hfit : i * 1 + (m.length - i) * 1 ≤ cu.size := by rw [hsz]; omega
        have hcl := fun ty c => run_clear_rows wr 62 9 ty (.string ⟨#[]⟩) Tryz.underlying62 zeroT (by decide) g (i * 1) (m.length - i) c (by omega) cu hh (by simpa [Value.cells] using hfit)
        generalize hzc : (Builtin.zeroCells (Value.string ⟨#[]⟩).cells (m.length - i)).toList = zs at hcl
        have hzl : zs.length = (m.length - i) * 1 := by rw [← hzc]; simp [Builtin.zeroCells, Value.cells]
        obtain ⟨wz, hwz⟩ : ∃ wz, wz = wr.setRow g (over cu.toList (i * 1) zs).toArray := ⟨_, rfl⟩
        have hrow := blk_setRow hh (over cu.toList (i * 1) zs).toArray
        rw [← hwz] at hrow hcl
        have HO : Hid (OwnR wz base 9 1 (.slice (some ⟨g, 0, none⟩) i cap) ((m.filter (stayB needs log)).map srow)) := by
          have := HS.out.2.2.2.2.firstOver i (by omega) cu hh zs (by rw [hzl]; exact hfit) hrow.1
          rw [← List.map_take, HS.out.2.2.1, List.take_length] at this
          exact this
        have HIL : Hid (i = (m.filter (stayB needs log)).length) := by
          have := HS.out.2.1
          rwa [List.take_length] at this
        have HG2 : Hid (w.grownBy wz (some g)) := grown_trans HG.out hrow.2
        have hin : (i : Int) ≤ (m.length : Int) := by omega
        have hne1 : ¬ cap = i := by omega
        simp only [Nat.mul_one] at hcl
        clear hwz hrow hh hsz hfit hzc hzl hpo
        go_wp2_with fail
        go_ret
        exact ⟨_, _, _, rfl, HIL, HO.out, HG2.out⟩
end Go.Proofs.YtnchjlimkgbfpaaGreatDoor

namespace Go.Proofs.YtnchjlimkgbfpaaGreatDoor
open Go.RowKit
set_option linter.unusedVariables false
set_option linter.unusedSimpArgs false
def orphP (s : St) (ts : List Me) (id log : Int) : List (List Int) × Int := if checkP s then ((s.names.map (·.1)).filter (stayB (needL (ts.map (·.id)) id) log), 0) else ([], 9)
theorem size_al (w : World) (o : Obj) : (w.alloc o).heap.size = w.heap.size + 1 := by
  show (w.heap.push o).size = _
  simp
theorem list_names {s : St} {v : Value} {w : World} (hv : StW w v s) : NamL (s.names.map (·.1)) := by
  obtain ⟨vf, vn, vs, _, _, hn, _⟩ := hv
  intro x hx
  obtain ⟨p, hp, rfl⟩ := List.mem_map.1 hx
  exact ⟨(hn.1 p hp).1, (hn.1 p hp).2.1⟩
set_option maxHeartbeats 4000000 in
set_option maxRecDepth 20000 in
theorem orphans_any (s : St) (v : Value) (ts : List Me) (seq next id log : Int) (va : Option Addr) (vn vc : Nat) (w : World) (hv : StW w v s) (hm : MetsR w (.slice va vn vc) ts) (hl : s.names.length + s.safe.length ≤ 9223372036854775807) (htl : ts.length ≤ 4000000000000) (he : EnvL w) :
    Calls Tryz.prog 21 #[v, .agg #[.slice va vn vc, .int .i64 seq, .int .i64 next], .int .i64 id, .int .i64 log] w fun e w' => ∃ v', e = .returned (.tuple #[v', .int .i64 (orphP s ts id log).2]) ∧ Hid (OwnR w' w.heap.size 9 1 v' ((orphP s ts id log).1.map srow)) ∧ Hid (Below w.heap.size w w') := by
  have HNm := hid (list_names hv)
  obtain ⟨af, nf, cf, an, nn, cn, as', ns, cs', ev⟩ := hv.shape
  subst ev
  have HS : Hid (StW w (.agg #[.int .i64 s.cap, .slice af nf cf, .slice an nn cn, .slice as' ns cs', .int .i64 s.next]) s) := hv
  have HM : Hid (MetsR w (.slice va vn vc) ts) := hm
  have HE : Hid (EnvL w) := he
  have HPd : Hid (orphP s ts id log = if checkP s then ((s.names.map (·.1)).filter (stayB (needL (ts.map (·.id)) id) log), 0) else ([], 9)) := rfl
  have HLd : Hid (listP s = if checkP s then (s.names.map (·.1), 0) else ([], 9)) := rfl
  obtain ⟨w1, hw1⟩ : ∃ w1, w1 = w.alloc (.cells #[.int .i64 s.cap, .slice af nf cf, .slice an nn cn, .slice as' ns cs', .int .i64 s.next] 35) := ⟨_, rfl⟩
  obtain ⟨w2, hw2⟩ : ∃ w2, w2 = w1.alloc (.cells #[.slice va vn vc, .int .i64 seq, .int .i64 next] 39) := ⟨_, rfl⟩
  obtain ⟨w3, hw3⟩ : ∃ w3, w3 = w2.alloc (.cells #[.int .i64 log] 3) := ⟨_, rfl⟩
  have z1 : w1.heap.size = w.heap.size + 1 := by rw [hw1, size_al]
  have z2 : w2.heap.size = w.heap.size + 2 := by rw [hw2, size_al, z1]
  have z3 : w3.heap.size = w.heap.size + 3 := by rw [hw3, size_al, z2]
  have U1 : Hid (Below w.heap.size w w1) := by rw [hw1]; exact up_alloc _ _
  have U2 : Hid (Below w.heap.size w w2) := by rw [hw2]; exact up_al U1.out _
  have U3 : Hid (Below w.heap.size w w3) := by rw [hw3]; exact up_al U2.out _
  have V23 : Hid (Below w2.heap.size w2 w3) := by rw [hw3]; exact up_alloc _ _
  have V13 : Hid (Below w1.heap.size w1 w3) := by rw [hw3, hw2]; exact up_al (up_al (Below.refl _ _) _) _
  have B1 : Hid (w3.heap[w.heap.size]? = some (.cells #[.int .i64 s.cap, .slice af nf cf, .slice an nn cn, .slice as' ns cs', .int .i64 s.next] 35)) := blk_up (by rw [hw1]; exact blk_new _ _) V13.out
  have B2 : Hid (w3.heap[w.heap.size + 1]? = some (.cells #[.slice va vn vc, .int .i64 seq, .int .i64 next] 39)) := blk_up (by rw [← z1, hw2]; exact blk_new _ _) V23.out
  have B3 : Hid (w3.heap[w.heap.size + 2]? = some (.cells #[.int .i64 log] 3)) := by rw [← z2, hw3]; exact blk_new _ _
  have HL := hid (list_any s _ w3 (HS.out.up U3.out) hl)
  have HW : Hid (((w.alloc (.cells #[.int .i64 s.cap, .slice af nf cf, .slice an nn cn, .slice as' ns cs', .int .i64 s.next] 35)).alloc (.cells #[.slice va vn vc, .int .i64 seq, .int .i64 next] 39)).alloc (.cells #[.int .i64 log] 3) = w3) := hid (by rw [hw3, hw2, hw1])
  have Z3 : Hid (w3.heap.size = w.heap.size + 3) := z3
  clear hv hm he hw1 hw2 hw3 z1 z2 z3
  have p0 := blk_cell B1.out 0 _ rfl
  have p1 := blk_cell B1.out 1 _ rfl
  have p2 := blk_cell B1.out 2 _ rfl
  have p3 := blk_cell B1.out 3 _ rfl
  have p4 := blk_cell B1.out 4 _ rfl
  go_enter Tryz.func21, Tryz.ntmps21
  go_upto_region 1 with fail
  rw [HW.out]
  cases hchk : checkP s with
  | false =>
    have HP : Hid (orphP s ts id log = ([], 9)) := by rw [HPd.out, hchk]; rfl
    have HLL : Hid (listP s = ([], 9)) := by rw [HLd.out, hchk]; rfl
    rw [HLL.out] at HL
    clear hchk HPd HLd
    go_wp2_with fail
    refine HL.out.mono ?_
    rintro e w4 ⟨v', rfl, ho, hb⟩
    have U4 : Hid (Below w.heap.size w w4) := U3.out.trans (hb.mono U3.out.size)
    clear hb ho HL p0 p1 p2 p3 p4
    go_wp2_with fail
    go_ret2
    rw [HP.out]
    exact ⟨_, rfl, OwnR.nil _ _ _ _, U4⟩
  | true =>
    have HP : Hid (orphP s ts id log = ((s.names.map (·.1)).filter (stayB (needL (ts.map (·.id)) id) log), 0)) := by rw [HPd.out, hchk]; rfl
    have HLL : Hid (listP s = (s.names.map (·.1), 0)) := by rw [HLd.out, hchk]; rfl
    have HLen : Hid ((s.names.map (·.1)).length ≤ 4398046511104) := by
      have := (check_sound hchk).1.1
      have h2 := names_len (check_parts hchk).2.2.1
      rw [List.length_map]
      unfold Hid
      omega
    rw [HLL.out] at HL
    simp only at HL
    clear hchk HPd HLd HLL
    generalize s.names.map (·.1) = nm at *
    have HND : Hid (∀ W, Below w.heap.size w W → Calls Tryz.prog 58 #[.agg #[.slice va vn vc, .int .i64 seq, .int .i64 next], .int .i64 id] W fun e w' => ∃ b, e = .returned (.map (some b)) ∧ Hid (SetN w' b (needL (ts.map (·.id)) id)) ∧ Hid (Below W.heap.size W w')) := fun W hW => needed_any ts seq next id va vn vc W (HM.out.up hW) htl (HE.out.1.up hW)
    generalize needL (ts.map (·.id)) id = needs at *
    go_wp2_with fail
    refine HL.out.mono ?_
    rintro e w4 ⟨v', rfl, ho, hb⟩
    have HO : Hid (OwnR w4 w3.heap.size 9 1 v' (nm.map srow)) := ho
    have U4 : Hid (Below w.heap.size w w4) := U3.out.trans (hb.mono U3.out.size)
    have V4 : Hid (Below w3.heap.size w3 w4) := hb
    have r0 := blk_cell (blk_up B2.out hb) 0 _ rfl
    have r1 := blk_cell (blk_up B2.out hb) 1 _ rfl
    have r2 := blk_cell (blk_up B2.out hb) 2 _ rfl
    obtain ⟨a', c', hav, -, -⟩ := (Rws.own ho).len
    subst hav
    clear hb ho HL p0 p1 p2 p3 p4
    go_wp2_with fail
    refine (HND.out w4 U4.out).mono ?_
    rintro e w5 ⟨b, rfl, HSet, hb5⟩
    obtain ⟨w6, hw6⟩ : ∃ w6, w6 = w5.alloc (.cells #[.map (some b)] 128) := ⟨_, rfl⟩
    have HW6 : Hid (w5.alloc (.cells #[.map (some b)] 128) = w6) := hw6.symm
    have V56 : Hid (Below w5.heap.size w5 w6) := by rw [hw6]; exact up_alloc _ _
    have U5 : Hid (Below w.heap.size w w5) := U4.out.trans (hb5.out.mono U4.out.size)
    have U6 : Hid (Below w.heap.size w w6) := U5.out.trans (V56.out.mono U5.out.size)
    have V45 : Hid (Below w4.heap.size w4 w5) := hb5.out
    have HO6 : Hid (OwnR w6 w3.heap.size 9 1 (.slice a' (nm.map srow).length c') (nm.map srow)) := (HO.out.up V45.out).up V56.out
    have HS6 : Hid (SetN w6 b needs) := HSet.out.up V56.out
    have HNc : Hid (w6.cell? ⟨w5.heap.size, 0, none⟩ = some (.map (some b))) := by rw [hw6]; exact blk_cell (blk_new _ _) 0 _ rfl
    have HLc : Hid (w6.cell? ⟨w.heap.size + 2, 0, none⟩ = some (.int .i64 log)) := blk_cell (blk_up (blk_up (blk_up B3.out V4.out) V45.out) V56.out) 0 _ rfl
    have HOrp : Hid (OrpW w3.heap.size w6 w5.heap.size (w.heap.size + 2) b needs log) := ⟨HNc.out, HLc.out, HS6.out, ((EnvB.of HE.out).mono U3.out.size).up U6.out⟩
    have HD := hid (orpDel_any nm HNm.out _ w5.heap.size (w.heap.size + 2) b needs log w3.heap.size w3.heap.size w6 HO6.out HLen.out HOrp.out (by
      intro g hg
      have hg' : a' = some ⟨g, 0, none⟩ := by
        rcases HO6.out.2.2 with ⟨q, _⟩ | ⟨g', cap', cur, q, _⟩
        · injection q with q _ _; subst q; simp [Value.ownBlock] at hg
        · injection q with q _ _; subst q; simp [Value.ownBlock] at hg; rw [hg]
      subst hg'
      obtain ⟨cur, hh, hbg, _⟩ := HO6.out.blk
      obtain ⟨cur4, hh4, _⟩ := HO.out.blk
      have hlt := blk_lt hh4
      have := V45.out.size
      have := Z3.out
      refine ⟨by omega, by omega, ?_, hbg⟩
      intro q
      subst q
      obtain ⟨D, ⟨es, clock, hm, _⟩, _⟩ := HS6.out.2
      rw [hh] at hm
      cases hm))
    clear hw6 V45 hb5 HSet HOrp HO6 HS6 HNc HLc HND HE HM HNm r0 r1 r2
    have HGr : Hid (∀ W, w6.grownBy W (Value.slice a' (nm.map srow).length c').ownBlock → Below w.heap.size w W) := by
      intro W hg
      refine U6.out.grown hg U6.out.size (fun g hk => ?_)
      rcases HO.out.2.2 with ⟨q, _⟩ | ⟨g', cap', cur, q, hbg, _⟩
      · injection q with q _ _; subst q; simp [Value.ownBlock] at hk
      · injection q with q _ _; subst q; simp [Value.ownBlock] at hk; have := U3.out.size; omega
    rw [List.length_map] at *
    go_wp2_with (first | (go_at_call 59; rw [HW6.out]; refine HD.out.mono ?_; rintro e w7 ⟨a7, n7, c7, rfl, h7, o7, g7⟩) | fail)
    go_ret2
    rw [HP.out]
    exact ⟨_, rfl, o7.out.mono U3.out.size, HGr.out _ g7.out⟩
end Go.Proofs.YtnchjlimkgbfpaaGreatDoor
