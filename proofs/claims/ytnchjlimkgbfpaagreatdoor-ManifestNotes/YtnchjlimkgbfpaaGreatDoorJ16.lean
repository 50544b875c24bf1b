/- The texts R4, M3, in this order. -/
import Derived.Test.YtnchjlimkgbfpaaGreatDoorJ15
import Derived.Test.YtnchjlimkgbfpaaGreatDoorJ14

namespace Go.Proofs.YtnchjlimkgbfpaaGreatDoor
open Go.RowKit
set_option linter.unusedVariables false
set_option maxRecDepth 20000
set_option linter.unusedSimpArgs false
def IntsW (w : World) (v : Value) (l : List Int) : Prop := (∀ x ∈ l, In64 x) ∧ Rws 1 w v (l.map fun x => [Value.int .i64 x])
theorem IntsW.up {w w' : World} {v : Value} {l : List Int} (h : IntsW w v l) (hb : Below w.heap.size w w') : IntsW w' v l := ⟨h.1, h.2.up hb⟩
theorem IntsW.len {w : World} {v : Value} {l : List Int} (h : IntsW w v l) : ∃ a cap, v = .slice a l.length cap ∧ l.length ≤ cap ∧ cap ≤ maxLen := by
  obtain ⟨a, cap, e, h1, h2⟩ := h.2.len
  rw [List.length_map] at e h1
  exact ⟨a, cap, e, h1, h2⟩
theorem IntsW.at {w : World} {v : Value} {l : List Int} (h : IntsW w v l) (k : Nat) (hk : k < l.length) : ∃ b off cap, v = .slice (some ⟨b, off, none⟩) l.length cap ∧ w.cell? ⟨b, off + k, none⟩ = some (.int .i64 (l.getD k 0)) ∧ In64 (l.getD k 0) := by
  obtain ⟨b, off, cap, e, h1, h2, hc⟩ := h.2.at k (by rw [List.length_map]; exact hk)
  rw [List.length_map] at e
  have hr : (l.map fun x => [Value.int .i64 x]).getD k [] = [Value.int .i64 (l.getD k 0)] := by simp [List.getD, hk]
  rw [hr] at hc
  have c0 := hc 0 _ rfl
  simp only [Nat.mul_one, Nat.add_zero] at c0
  exact ⟨b, off, cap, e, c0, h.1 _ (by simp [List.getD, hk])⟩
def cutTo (keep : List Int) (l : List (Int × List Int × Int)) (k : Nat) : List (Int × List Int × Int) := l.mapIdx fun i f => if i < k then cutF f (keep.getD i 0) else f
theorem cutTo_zero (keep : List Int) (l : List (Int × List Int × Int)) : cutTo keep l 0 = l := by
  unfold cutTo
  apply List.ext_getElem (by simp)
  intro i h1 h2
  simp
theorem cutTo_len (keep : List Int) (l : List (Int × List Int × Int)) (k : Nat) : (cutTo keep l k).length = l.length := by simp [cutTo]
theorem cutTo_at (keep : List Int) (l : List (Int × List Int × Int)) (k i : Nat) (hi : i < l.length) : (cutTo keep l k).getD i (0, [], 0) = if i < k then cutF (l.getD i (0, [], 0)) (keep.getD i 0) else l.getD i (0, [], 0) := by
  simp [cutTo, List.getD, hi]
theorem cutTo_succ (keep : List Int) (l : List (Int × List Int × Int)) (k : Nat) (hk : k < l.length) : (cutTo keep l k).set k (cutF (l.getD k (0, [], 0)) (keep.getD k 0)) = cutTo keep l (k + 1) := by
  unfold cutTo
  apply List.ext_getElem (by simp)
  intro i h1 h2
  have hi : i < l.length := by simpa using h2
  rw [List.getElem_set, List.getElem_mapIdx, List.getElem_mapIdx]
  by_cases e : k = i
  · subst e
    rw [if_pos rfl, if_pos (by omega)]
    simp [List.getD, hk]
  · rw [if_neg e]
    by_cases c : i < k
    · rw [if_pos c, if_pos (by omega)]
    · rw [if_neg c, if_neg (by omega)]
def crashP (s : St) (keep : List Int) : St × Int := if checkP s then (sweptOf { s with files := cutTo keep s.files s.files.length, names := s.safe }, 0) else (z0, 9)
theorem OpenS.setFiles {w w1 : World} {base B : Nat} {s : St} {g cf : Nat} {an : Option Addr} {cn : Nat} {as' : Option Addr} {cs' : Nat} {m m' : List FRow} (h : OpenS w base B s (some ⟨g, 0, none⟩) cf an cn as' cs' m) (hl : m'.length = m.length) (hg : w.grownBy w1 (some g)) (hf : OwnF w1 base (.slice (some ⟨g, 0, none⟩) m.length cf) m') (hbase : base ≤ w.heap.size) :
    OpenS w1 base B { s with files := m'.map (·.2) } (some ⟨g, 0, none⟩) cf an cn as' cs' m' ∧ Beside base B w w1 := by
  obtain ⟨hB, hb, hm, of, on, os, hap, hi1, hi2⟩ := h
  have hgb := of.1.2.lt g rfl
  have nB : some B ≠ some g := by
    have := own_blk_ne of.1.2 hb (by decide)
    simp [Value.ownBlock] at this
    intro q
    injection q with q
    exact this q.symm
  refine ⟨⟨trivial, ?_, rfl, ?_, on.far hg (own_own_ne on.2.2 of.1.2 (by decide)), os.far hg (own_own_ne os.2.2 of.1.2 (by decide)), hap, hi1, hi2⟩, ?_⟩
  · rw [hl]
    exact blk_grown hb hg nB
  · rw [hl]
    exact hf
  · exact (Beside.refl base B w).grown hg hbase (fun k hk => by injection hk with hk; exact .inl (by omega))
theorem OpenS.same {w : World} {base B : Nat} {s s' : St} {af : Option Addr} {cf : Nat} {an : Option Addr} {cn : Nat} {as' : Option Addr} {cs' : Nat} {m : List FRow} (h : OpenS w base B s af cf an cn as' cs' m) (e : s = s') : OpenS w base B s' af cf an cn as' cs' m := e ▸ h
theorem ok_file {s : St} (h : filesMayOf s = true) (i : Nat) (hi : i < s.files.length) : 0 ≤ (fileD s i).2.2 ∧ (fileD s i).2.2 ≤ ((fileD s i).2.1.length : Int) := by
  have := filesMay_ok h i hi
  unfold okFile at this
  simp only [Bool.and_eq_true, decide_eq_true_eq] at this
  exact ⟨this.1.2, this.2⟩
theorem crash_next {s : St} {keep : List Int} {w1 y w3 : World} {B g cf2 cn2 cs2 : Nat} {an2 as2 : Option Addr} {m3 : List FRow} {k : Nat} {ix : Value} (hk : k < s.files.length) (hm : m3.length = s.files.length) (hx : ix = .int .i64 ((k + 1 : Nat) : Int)) (O : Hid (OpenS w3 w1.heap.size B { s with files := cutTo keep s.files (k + 1) } (some ⟨g, 0, none⟩) cf2 an2 cn2 as2 cs2 m3)) (be : Hid (Beside w1.heap.size B y w3)) :
    (∃ (k : Nat) (m : List FRow), k ≤ s.files.length ∧ m.length = s.files.length ∧ ix = .int .i64 k ∧ Hid (OpenS w3 w1.heap.size B { s with files := cutTo keep s.files k } (some ⟨g, 0, none⟩) cf2 an2 cn2 as2 cs2 m) ∧ Hid (Beside w1.heap.size B y w3)) ∧ s.files.length - (intOf ix).toNat < s.files.length - (intOf (Value.int .i64 (k : Int))).toNat := by
  refine ⟨⟨k + 1, m3, by omega, hm, hx, O, be⟩, ?_⟩
  subst hx
  simp only [intOf]
  omega
set_option maxHeartbeats 4000000 in
set_option maxRecDepth 20000 in
theorem crash_any (s : St) (keep : List Int) (v vk : Value) (w : World) (hv : StW w v s) (hk : IntsW w vk keep) (hl : s.names.length + s.safe.length ≤ 9223372036854775807) :
    Calls Tryz.prog 67 #[v, vk] w fun e w' => ∃ v', e = .returned (.tuple #[v', .int .i64 (crashP s keep).2]) ∧ OwnV w' w.heap.size v' (crashP s keep).1 ∧ Below w.heap.size w w' := by
  obtain ⟨af, nf, cf, an, nn, cn, as', ns, cs', ev⟩ := hv.shape
  obtain ⟨ak, ck, evk, hck, hmk⟩ := hk.len
  subst evk
  subst ev
  obtain ⟨B, hB⟩ : ∃ B, B = w.heap.size := ⟨_, rfl⟩
  obtain ⟨wx, hwx⟩ : ∃ wx, wx = (w.alloc (.cells #[.int .i64 s.cap, .slice af nf cf, .slice an nn cn, .slice as' ns cs', .int .i64 s.next] 35)).alloc (.cells #[.int .i64 0, .slice none 0 0, .slice none 0 0, .slice none 0 0, .int .i64 0] 35) := ⟨_, rfl⟩
  have HX : Hid ((w.alloc (.cells #[.int .i64 s.cap, .slice af nf cf, .slice an nn cn, .slice as' ns cs', .int .i64 s.next] 35)).alloc (.cells #[.int .i64 0, .slice none 0 0, .slice none 0 0, .slice none 0 0, .int .i64 0] 35) = wx) := hwx.symm
  have b0 : wx.heap[B]? = some (.cells #[.int .i64 s.cap, .slice af nf cf, .slice an nn cn, .slice as' ns cs', .int .i64 s.next] 35) := by
    rw [hwx, hB]
    exact blk_two0 w _ _
  have b2 : wx.heap[B + 1]? = some (.cells #[.int .i64 0, .slice none 0 0, .slice none 0 0, .slice none 0 0, .int .i64 0] 35) := by
    rw [hwx, hB]
    exact blk_two1 w _ _
  have up : Hid (Below w.heap.size w wx) := by rw [hwx]; exact up_al (up_al (Below.refl _ _) _) _
  have HB : Hid (wx.heap[B]? = some (.cells #[.int .i64 s.cap, .slice af nf cf, .slice an nn cn, .slice as' ns cs', .int .i64 s.next] 35) ∧ wx.heap[B + 1]? = some (.cells #[.int .i64 0, .slice none 0 0, .slice none 0 0, .slice none 0 0, .int .i64 0] 35)) := ⟨b0, b2⟩
  have HS : Hid (StW w (.agg #[.int .i64 s.cap, .slice af nf cf, .slice an nn cn, .slice as' ns cs', .int .i64 s.next]) s ∧ IntsW w (.slice ak keep.length ck) keep ∧ B = w.heap.size) := ⟨hv, hk, hB⟩
  clear b0 b2 hwx hv hk
  go_enter Tryz.func67, Tryz.ntmps67
  go_upto_region 1 with fail
  rw [HX.out, ← hB]
  clear HX hB
  have q0 := blk_cell HB.out.1 0 _ rfl
  have q1 := blk_cell HB.out.1 1 _ rfl
  have q2 := blk_cell HB.out.1 2 _ rfl
  have q3 := blk_cell HB.out.1 3 _ rfl
  have q4 := blk_cell HB.out.1 4 _ rfl
  have hc := check_any s _ wx (HS.out.1.up up.out) hl
  cases hchk : checkP s with
  | false =>
    have HR : Hid (crashP s keep = (z0, 9)) := by unfold Hid crashP; rw [hchk]; rfl
    rw [hchk] at hc
    have he : errOf false = 9 := rfl
    rw [he] at hc
    clear hchk he
    go_wp2_with fail
    refine hc.mono ?_
    rintro e w1 ⟨rfl, u1⟩
    have HB1 : Hid (w1.heap[B + 1]? = some (.cells #[.int .i64 0, .slice none 0 0, .slice none 0 0, .slice none 0 0, .int .i64 0] 35)) := blk_up HB.out.2 u1
    have up1 : Hid (Below w.heap.size w w1) := up_trans up.out u1
    clear u1 hc q0 q1 q2 q3 q4
    have x0 := blk_cell HB1.out 0 _ rfl
    have x1 := blk_cell HB1.out 1 _ rfl
    have x2 := blk_cell HB1.out 2 _ rfl
    have x3 := blk_cell HB1.out 3 _ rfl
    have x4 := blk_cell HB1.out 4 _ rfl
    have f0 := blk_frozen HB1.out 0
    have f1 := blk_frozen HB1.out 1
    have f2 := blk_frozen HB1.out 2
    have f3 := blk_frozen HB1.out 3
    have f4 := blk_frozen HB1.out 4
    go_wp2_with fail
    have b5 := set5_blk HB1.out (.int .i64 0) (.slice none 0 0) (.slice none 0 0) (.slice none 0 0) (.int .i64 0)
    refine bodyPost_ret (results_state1 rfl _ _ rfl rfl b5) rfl ?_
    rw [HR.out]
    refine ⟨_, rfl, OwnV.zero _ _ 0 0 in64_0 in64_0, ?_⟩
    exact up1.out.grown (set5_grown _ _ _ _ _ _ _) up1.out.size (fun j hj => by injection hj with hj; rw [← hj, HS.out.2.2]; omega)
  | true =>
    have HSo : Hid (Sound s ∧ filesMayOf s = true) := ⟨check_sound hchk, (check_parts hchk).2.1⟩
    have HR : Hid (crashP s keep = (sweptOf { s with files := cutTo keep s.files s.files.length, names := s.safe }, 0)) := by unfold Hid crashP; rw [hchk]; rfl
    rw [hchk] at hc
    have he : errOf true = 0 := rfl
    rw [he] at hc
    clear hchk he
    go_wp2_with fail
    refine hc.mono ?_
    rintro e w1 ⟨rfl, u1⟩
    have HB1 : Hid (w1.heap[B]? = some (.cells #[.int .i64 s.cap, .slice af nf cf, .slice an nn cn, .slice as' ns cs', .int .i64 s.next] 35) ∧ w1.heap[B + 1]? = some (.cells #[.int .i64 0, .slice none 0 0, .slice none 0 0, .slice none 0 0, .int .i64 0] 35)) := ⟨blk_up HB.out.1 u1, blk_up HB.out.2 u1⟩
    have up1 : Hid (Below w.heap.size w w1) := up_trans up.out u1
    clear u1 hc q0 q1 q2 q3 q4
    have q0 := blk_cell HB1.out.1 0 _ rfl
    have q1 := blk_cell HB1.out.1 1 _ rfl
    have q2 := blk_cell HB1.out.1 2 _ rfl
    have q3 := blk_cell HB1.out.1 3 _ rfl
    have q4 := blk_cell HB1.out.1 4 _ rfl
    go_wp2_with fail
    refine (copied_anyG s _ w1 (HS.out.1.up up1.out) HSo.out.1.1.1 HSo.out.1.1.2.1 HSo.out.1.1.2.2.1).mono ?_
    rintro e w2 ⟨v2, rfl, ov2, u2⟩
    obtain ⟨a1, n1, c1, a2, n2, c2, a3, n3, c3, ev2⟩ := ov2.shape
    subst ev2
    have hb2 : w2.heap[B]? = some (.cells #[.int .i64 s.cap, .slice af nf cf, .slice an nn cn, .slice as' ns cs', .int .i64 s.next] 35) := blk_up HB1.out.1 u2
    have hpt := ov2.put hb2
    have g5 := set5_grown w2 B (.int .i64 s.cap) (.slice a1 n1 c1) (.slice a2 n2 c2) (.slice a3 n3 c3) (.int .i64 s.next)
    clear q0 q1 q2 q3 q4
    have q0 := blk_cell hb2 0 _ rfl
    have q1 := blk_cell hb2 1 _ rfl
    have q2 := blk_cell hb2 2 _ rfl
    have q3 := blk_cell hb2 3 _ rfl
    have q4 := blk_cell hb2 4 _ rfl
    have f0 := blk_frozen hb2 0
    have f1 := blk_frozen hb2 1
    have f2 := blk_frozen hb2 2
    have f3 := blk_frozen hb2 3
    have f4 := blk_frozen hb2 4
    have HBl : Hid (B + 1 < w1.heap.size) := blk_lt HB1.out.2
    go_upto_region 5 with fail
    obtain ⟨y, hy⟩ : ∃ y, y = set5 w2 B (.int .i64 s.cap) (.slice a1 n1 c1) (.slice a2 n2 c2) (.slice a3 n3 c3) (.int .i64 s.next) := ⟨_, rfl⟩
    have hy' : ((((w2.setCell ⟨B, 0, none⟩ (.int .i64 s.cap)).setCell ⟨B, 1, none⟩ (.slice a1 n1 c1)).setCell ⟨B, 2, none⟩ (.slice a2 n2 c2)).setCell ⟨B, 3, none⟩ (.slice a3 n3 c3)).setCell ⟨B, 4, none⟩ (.int .i64 s.next) = y := by rw [hy]; rfl
    rw [hy']
    rw [← hy] at hpt g5
    have uy : Below w.heap.size w y := (up_trans up1.out u2).grown g5 (Nat.le_trans up1.out.size u2.size) (fun j hj => by injection hj with hj; rw [← hj, HS.out.2.2]; exact Nat.le_refl _)
    have HY : Hid (OwnS y w1.heap.size B s ∧ y.heap[B + 1]? = some (.cells #[.int .i64 0, .slice none 0 0, .slice none 0 0, .slice none 0 0, .int .i64 0] 35) ∧ Below w.heap.size w y ∧ w1.heap.size ≤ y.heap.size) :=
      ⟨hpt.1, blk_grown (blk_up HB1.out.2 u2) g5 (by simp), uy, Nat.le_trans u2.size g5.size⟩
    clear q0 q1 q2 q3 q4 f0 f1 f2 f3 f4 hb2 hpt g5 hy hy' ov2 u2 uy
    obtain ⟨af2, cf2, an2, cn2, as2, cs2, m2, hO2⟩ := HY.out.1.open
    have hml : m2.length = s.files.length := by
      have := congrArg List.length hO2.2.2.1
      simpa using this
    have HO2 : Hid (OpenS y w1.heap.size B s af2 cf2 an2 cn2 as2 cs2 m2) := hO2
    have q1 := blk_cell hO2.2.1 1 _ rfl
    clear hO2
    go_wp2_with fail
    clear q1
    have hckm : keep.length ≤ 9223372036854775807 := by unfold maxLen at hmk; omega
    go_loopw [20] (fun ix wr => ∃ (k : Nat) (m : List FRow), k ≤ s.files.length ∧ m.length = s.files.length ∧ ix = .int .i64 k ∧ Hid (OpenS wr w1.heap.size B { s with files := cutTo keep s.files k } af2 cf2 an2 cn2 as2 cs2 m) ∧ Hid (Beside w1.heap.size B y wr)) (fun ix _ => s.files.length - (intOf ix).toNat)
    case atStart => exact ⟨0, m2, Nat.zero_le _, hml, rfl, HO2.out.same (by rw [cutTo_zero]), Beside.refl _ _ _⟩
    case round =>
      clear HO2
      obtain ⟨k, m, hk, hmk2, rfl, HO, be⟩ := hrel
      have upr : Hid (Below w.heap.size w wr) := HY.out.2.2.1.trans ⟨be.out.os, be.out.tape, be.out.output, be.out.size, fun j hj => be.out.block j (by have := up1.out.size; omega) (by rw [HS.out.2.2]; omega)⟩
      by_cases hlt : k < s.files.length
      · have hlt' : (k : Int) < (s.files.length : Int) := by omega
        have hshape : ∃ g, af2 = some ⟨g, 0, none⟩ := by
          rcases HO.out.2.2.2.1.1.2.2 with ⟨e2, e3⟩ | ⟨g, cap', cur, e2, _⟩
          · rw [List.length_map] at e3; omega
          · simp at e2
            exact ⟨g, e2.1⟩
        obtain ⟨g, rfl⟩ := hshape
        have hrow := HO.out.rowAt k (by simp only; rw [cutTo_len]; exact hlt)
        have efd : fileD { s with files := cutTo keep s.files k } k = fileD s k := by
          unfold fileD
          simp only
          rw [cutTo_at _ _ _ _ hlt, if_neg (by omega)]
        rw [efd] at hrow
        have hokf := ok_file HSo.out.2 k hlt
        have HCut : Hid (∀ more, In64 more → Calls Tryz.prog 106 #[.pointer (some ⟨g, k * 3, none⟩), .int .i64 more] wr fun e w' => ∃ v', e = .returned (.tuple #[]) ∧ OwnF w' w1.heap.size (.slice (some ⟨g, 0, none⟩) m.length cf2) (m.set k (v', cutF (fileD s k) more)) ∧ wr.grownBy w' (some g)) := by
          intro more hmo
          have := cut_any w1.heap.size g m.length cf2 k m more hmo wr HO.out.2.2.2.1 rfl hrow.1 (by rw [hrow.2.2.1]; exact hokf.1) (by rw [hrow.2.2.1]; exact hokf.2)
          rw [hrow.2.2.1] at this
          exact this
        have HStep : Hid (∀ more w' v', more = keep.getD k 0 → OwnF w' w1.heap.size (.slice (some ⟨g, 0, none⟩) m.length cf2) (m.set k (v', cutF (fileD s k) more)) → wr.grownBy w' (some g) → ∃ m', m'.length = s.files.length ∧ Hid (OpenS w' w1.heap.size B { s with files := cutTo keep s.files (k + 1) } (some ⟨g, 0, none⟩) cf2 an2 cn2 as2 cs2 m') ∧ Hid (Beside w1.heap.size B y w')) := by
          intro more w' v' hmo hf hg
          have st := HO.out.setFiles (by simp) hg hf (Nat.le_trans HY.out.2.2.2 be.out.size)
          refine ⟨_, by rw [List.length_set]; exact hmk2, st.1.same ?_, be.out.trans st.2⟩
          congr 1
          rw [map_set_snd, HO.out.2.2.1, hmo]
          exact cutTo_succ keep s.files k hlt
        have q1 := blk_cell HO.out.2.1 1 _ rfl
        have hkm : (k : Int) < (m.length : Int) := by omega
        simp only at q1
        clear hrow efd hokf hml
        rw [hmk2] at q1 hkm
        by_cases hkk : k < keep.length
        · have hkk' : (k : Int) < (keep.length : Int) := by omega
          obtain ⟨bk, ok, cpk, ek, ck', hik⟩ := (HS.out.2.1.up upr.out).at k hkk
          simp at ek
          obtain ⟨rfl, rfl⟩ := ek
          have HIk : Hid (In64 (keep.getD k 0)) := hik
          clear hik
          obtain ⟨more, hmo⟩ : ∃ more, more = keep.getD k 0 := ⟨_, rfl⟩
          rw [← hmo] at ck' HIk
          have HMo : Hid (more = keep.getD k 0) := hmo
          have HK : Hid (k < s.files.length) := hlt
          clear hmo
          go_wp2_with fail
          refine (HCut.out more HIk.out).mono ?_
          rintro e w3 ⟨v3, rfl, of3, g3⟩
          obtain ⟨m3, hm3, O3, be3⟩ := HStep.out more w3 v3 HMo.out of3 g3
          clear of3 g3 q1 ck'
          have HM3 : Hid (m3.length = s.files.length) := hm3
          clear hm3
          go_wp2_with fail
          exact crash_next HK.out HM3.out (by have h1 := HK.out; have h2 := HSo.out.1.1.1; go_num) O3 be3
        · have hkk' : ¬ (k : Int) < (keep.length : Int) := by omega
          have HMo : Hid ((0 : Int) = keep.getD k 0) := by
            unfold Hid
            rw [List.getD_eq_getElem?_getD, List.getElem?_eq_none (by omega)]
            rfl
          have HK : Hid (k < s.files.length) := hlt
          go_wp2_with fail
          refine (HCut.out 0 in64_0).mono ?_
          rintro e w3 ⟨v3, rfl, of3, g3⟩
          obtain ⟨m3, hm3, O3, be3⟩ := HStep.out 0 w3 v3 HMo.out of3 g3
          clear of3 g3 q1
          have HM3 : Hid (m3.length = s.files.length) := hm3
          clear hm3
          have hk6 : (k : Int) ≤ 256 := by have h1 := HK.out; have h2 := HSo.out.1.1.1; omega
          go_wp2_with fail
          exact crash_next HK.out HM3.out (by have h1 := HK.out; have h2 := HSo.out.1.1.1; go_num) O3 be3
      · have hlt' : ¬ (k : Int) < (s.files.length : Int) := by omega
        obtain rfl : k = s.files.length := by omega
        have q3 := blk_cell HO.out.2.1 3 _ rfl
        have hb3 : w1.heap.size ≤ wr.heap.size := Nat.le_trans HY.out.2.2.2 be.out.size
        simp only at q3
        clear hml
        go_wp2_with fail
        refine (freshN_any s.safe _ wr (NamesW.own HO.out.2.2.2.2.2.1) (by have := HSo.out.1.1.2.2.1; omega)).mono ?_
        rintro e w3 ⟨v3, rfl, on3, u3⟩
        obtain ⟨a6, c6, e6, _, _⟩ := (NamesW.own on3).len
        subst e6
        have st := HO.out.setNames hb3 (grown_up u3 _) (v' := .slice a6 s.safe.length c6) (l' := s.safe) (.inr (fun b hb => (on3.2.2.lt b hb).1)) (on3.mono hb3)
        have q2 := blk_cell st.1 2 _ rfl
        have f2 := blk_frozen st.1 2
        have HS3 : Hid (OwnS (w3.setCell ⟨B, 2, none⟩ (.slice a6 s.safe.length c6)) w1.heap.size B { s with files := cutTo keep s.files s.files.length, names := s.safe } ∧ Beside w1.heap.size B wr (w3.setCell ⟨B, 2, none⟩ (.slice a6 s.safe.length c6))) := st.2
        clear st u3 on3 q3
        go_wp2_with fail
        refine (sweep_any _ w1.heap.size B _ HS3.out.1 (by simp only; rw [cutTo_len]; exact HSo.out.1.1.1) HSo.out.1.1.2.2.1 HSo.out.1.1.2.2.1 (Nat.le_trans hb3 HS3.out.2.size)).mono ?_
        rintro e w4 ⟨rfl, os4, be4⟩
        have HE : Hid (OwnS w4 w1.heap.size B (crashP s keep).1 ∧ Below w.heap.size w w4 ∧ w4.heap[B + 1]? = some (.cells #[.int .i64 0, .slice none 0 0, .slice none 0 0, .slice none 0 0, .int .i64 0] 35)) := by
          have bb := (be.out.trans HS3.out.2).trans be4
          refine ⟨by rw [HR.out]; exact os4, ?_, ?_⟩
          · exact HY.out.2.2.1.trans ⟨bb.os, bb.tape, bb.output, bb.size, fun j hj => bb.block j (by have := up1.out.size; omega) (by rw [HS.out.2.2]; omega)⟩
          · exact (bb.block (B + 1) HBl.out (by omega)).trans HY.out.2.1
        clear os4 be4 q2 f2 hlt' HS3
        obtain ⟨vf3, vn3, vs3, hb4, ov3⟩ := HE.out.1.take
        obtain ⟨a4, n4, c4, a5, n5, c5, a7, n7, c7, ev4⟩ := ov3.shape
        simp at ev4
        obtain ⟨rfl, rfl, rfl⟩ := ev4
        have q0 := blk_cell hb4 0 _ rfl
        have q1 := blk_cell hb4 1 _ rfl
        have q2 := blk_cell hb4 2 _ rfl
        have q3 := blk_cell hb4 3 _ rfl
        have q4 := blk_cell hb4 4 _ rfl
        have x0 := blk_cell HE.out.2.2 0 _ rfl
        have x1 := blk_cell HE.out.2.2 1 _ rfl
        have x2 := blk_cell HE.out.2.2 2 _ rfl
        have x3 := blk_cell HE.out.2.2 3 _ rfl
        have x4 := blk_cell HE.out.2.2 4 _ rfl
        have f0 := blk_frozen HE.out.2.2 0
        have f1 := blk_frozen HE.out.2.2 1
        have f2 := blk_frozen HE.out.2.2 2
        have f3 := blk_frozen HE.out.2.2 3
        have f4 := blk_frozen HE.out.2.2 4
        have HP : Hid (OwnV (set5 w4 (B + 1) (.int .i64 (crashP s keep).1.cap) (.slice a4 n4 c4) (.slice a5 n5 c5) (.slice a7 n7 c7) (.int .i64 (crashP s keep).1.next)) w1.heap.size (.agg #[.int .i64 (crashP s keep).1.cap, .slice a4 n4 c4, .slice a5 n5 c5, .slice a7 n7 c7, .int .i64 (crashP s keep).1.next]) (crashP s keep).1) := (ov3.put HE.out.2.2).2
        clear ov3 hb4
        go_wp2_with fail
        have b5 := set5_blk HE.out.2.2 (.int .i64 (crashP s keep).1.cap) (.slice a4 n4 c4) (.slice a5 n5 c5) (.slice a7 n7 c7) (.int .i64 (crashP s keep).1.next)
        refine bodyPost_ret (results_state1 rfl _ _ rfl rfl b5) rfl ?_
        have hz : (crashP s keep).2 = 0 := by rw [HR.out]
        rw [hz]
        refine ⟨_, rfl, HP.out.mono up1.out.size, ?_⟩
        exact HE.out.2.1.grown (set5_grown _ _ _ _ _ _ _) HE.out.2.1.size (fun j hj => by injection hj with hj; rw [← hj, HS.out.2.2]; omega)
end Go.Proofs.YtnchjlimkgbfpaaGreatDoor

namespace Go.Proofs.YtnchjlimkgbfpaaGreatDoor
open Go.RowKit
set_option linter.unusedVariables false
set_option maxRecDepth 20000
theorem stands_iff (l : List (List Int × Int)) (x : Int) : standsOf l x = true ↔ x ∈ l.map (·.2) := by
  unfold standsOf
  rw [List.any_eq_true, List.mem_map]
  constructor
  · rintro ⟨p, hp, e⟩
    exact ⟨p, hp, by simpa using e⟩
  · rintro ⟨p, hp, e⟩
    exact ⟨p, hp, by simpa using e⟩
theorem used_cons (f : Int × List Int × Int) (l : List (Int × List Int × Int)) : usedOf (f :: l) = (f.2.1.length : Int) + usedOf l := by simp [usedOf]
theorem used_append (a b : List (Int × List Int × Int)) : usedOf (a ++ b) = usedOf a + usedOf b := by simp [usedOf]
theorem used_filter (p : Int × List Int × Int → Bool) : ∀ l : List (Int × List Int × Int), usedOf (l.filter p) ≤ usedOf l
  | [] => by simp [usedOf]
  | f :: r => by
    have h := used_filter p r
    rw [List.filter_cons]
    split
    · rw [used_cons, used_cons]; omega
    · rw [used_cons]; omega
theorem used_less : ∀ (a b : List (Int × List Int × Int)), a.length = b.length → (∀ i (h1 : i < a.length) (h2 : i < b.length), a[i].2.1.length ≤ b[i].2.1.length) → usedOf a ≤ usedOf b
  | [], [], _, _ => Int.le_refl _
  | x :: a, y :: b, hl, h => by
    have h0 := h 0 (by simp) (by simp)
    have := used_less a b (by simpa using hl) (fun i h1 h2 => by
      have := h (i + 1) (by simp; omega) (by simp; omega)
      simpa using this)
    rw [used_cons, used_cons]
    simp at h0
    omega
  | [], _ :: _, hl, _ => by simp at hl
  | _ :: _, [], hl, _ => by simp at hl
theorem NamesGood.sub {fs : List (Int × List Int × Int)} {l k : List (List Int × Int)} (h : NamesGood fs l) (hs : k.Sublist l) : NamesGood fs k :=
  ⟨fun p hp => h.may p (hs.subset hp), h.rise.sublist hs, fun p hp => h.ids p (hs.subset hp), h.once.sublist (hs.map _)⟩
theorem NamesGood.over {fs fs' : List (Int × List Int × Int)} {l : List (List Int × Int)} (h : NamesGood fs l) (hs : ∀ p ∈ l, p.2 ∈ fs'.map (·.1)) : NamesGood fs' l := ⟨h.may, h.rise, hs, h.once⟩
theorem nearly_swept {s : St} (h : Nearly s) : Good (sweptOf s) := by
  have hn : ∀ l, NamesGood s.files l → (∀ p ∈ l, (standsOf s.names p.2 || standsOf s.safe p.2) = true) → NamesGood (sweptOf s).files l := by
    intro l hl hst
    refine hl.over fun p hp => ?_
    obtain ⟨f, hf, e⟩ := List.mem_map.1 (hl.ids p hp)
    refine List.mem_map.2 ⟨f, List.mem_filter.2 ⟨hf, ?_⟩, e⟩
    rw [e]
    exact hst p hp
  refine ⟨⟨h.cap0, h.cap1, h.next0, h.next1, Nat.le_trans (List.length_filter_le _ _) h.few, h.rise.filter _, fun f hf => h.ids f (List.mem_filter.1 hf).1, fun f hf => h.sync f (List.mem_filter.1 hf).1, Int.le_trans (used_filter _ _) h.used, ?_, ?_⟩, ?_⟩
  · refine hn _ h.names fun p hp => ?_
    have : standsOf s.names p.2 = true := (stands_iff _ _).2 (List.mem_map.2 ⟨p, hp, rfl⟩)
    rw [this]
    rfl
  · refine hn _ h.safe fun p hp => ?_
    have : standsOf s.safe p.2 = true := (stands_iff _ _).2 (List.mem_map.2 ⟨p, hp, rfl⟩)
    rw [this]
    simp
  · intro f hf
    have := (List.mem_filter.1 hf).2
    simp only [Bool.or_eq_true] at this
    rcases this with q | q
    · exact .inl ((stands_iff _ _).1 q)
    · exact .inr ((stands_iff _ _).1 q)
theorem nearly_names {s : St} (h : Nearly s) {l : List (List Int × Int)} (hl : NamesGood s.files l) : Nearly { s with names := l } :=
  ⟨h.cap0, h.cap1, h.next0, h.next1, h.few, h.rise, h.ids, h.sync, h.used, hl, h.safe⟩
theorem nearly_safe {s : St} (h : Nearly s) {l : List (List Int × Int)} (hl : NamesGood s.files l) : Nearly { s with safe := l } :=
  ⟨h.cap0, h.cap1, h.next0, h.next1, h.few, h.rise, h.ids, h.sync, h.used, h.names, hl⟩
theorem rise_ids {fs : List (Int × List Int × Int)} : (fs.Pairwise fun a b => a.1 < b.1) ↔ (fs.map (·.1)).Pairwise (· < ·) := by rw [List.pairwise_map]
theorem nearly_files {s : St} (h : Nearly s) {fs : List (Int × List Int × Int)} (hi : fs.map (·.1) = s.files.map (·.1)) (hs : ∀ f ∈ fs, 0 ≤ f.2.2 ∧ f.2.2 ≤ (f.2.1.length : Int)) (hu : usedOf fs ≤ s.cap) : Nearly { s with files := fs } := by
  have hl : fs.length = s.files.length := by
    have := congrArg List.length hi
    simpa using this
  refine ⟨h.cap0, h.cap1, h.next0, h.next1, by simp only; rw [hl]; exact h.few, ?_, ?_, hs, hu, ?_, ?_⟩
  · simp only
    rw [rise_ids, hi, ← rise_ids]
    exact h.rise
  · intro f hf
    have : f.1 ∈ s.files.map (·.1) := by rw [← hi]; exact List.mem_map.2 ⟨f, hf, rfl⟩
    obtain ⟨g, hg, e⟩ := List.mem_map.1 this
    have := h.ids g hg
    rw [e] at this
    exact this
  · refine h.names.over fun p hp => ?_
    simp only
    rw [hi]
    exact h.names.ids p hp
  · refine h.safe.over fun p hp => ?_
    simp only
    rw [hi]
    exact h.safe.ids p hp
theorem good_files {s : St} (h : Good s) {fs : List (Int × List Int × Int)} (hi : fs.map (·.1) = s.files.map (·.1)) (hs : ∀ f ∈ fs, 0 ≤ f.2.2 ∧ f.2.2 ≤ (f.2.1.length : Int)) (hu : usedOf fs ≤ s.cap) : Good { s with files := fs } := by
  refine ⟨nearly_files h.toNearly hi hs hu, fun f hf => ?_⟩
  have : f.1 ∈ s.files.map (·.1) := by rw [← hi]; exact List.mem_map.2 ⟨f, hf, rfl⟩
  obtain ⟨g, hg, e⟩ := List.mem_map.1 this
  have := h.all g hg
  rw [e] at this
  exact this
theorem crash_good {s : St} (h : Good s) (keep : List Int) : Good (crashP s keep).1 := by
  unfold crashP
  rw [good_check h]
  simp only [if_true]
  refine nearly_swept ?_
  have hat : ∀ i (h1 : i < (cutTo keep s.files s.files.length).length) (h2 : i < s.files.length), (cutTo keep s.files s.files.length)[i] = cutF s.files[i] (keep.getD i 0) := by
    intro i h1 h2
    have e := cutTo_at keep s.files s.files.length i h2
    rw [if_pos h2] at e
    simpa [List.getD, h1, h2] using e
  have hleft : ∀ i (h2 : i < s.files.length), 0 ≤ leftN s.files[i] (keep.getD i 0) ∧ leftN s.files[i] (keep.getD i 0) ≤ (s.files[i].2.1.length : Int) := by
    intro i h2
    have := h.sync s.files[i] (List.getElem_mem _)
    unfold leftN
    omega
  have hf : Nearly { s with files := cutTo keep s.files s.files.length } := by
    refine nearly_files h.toNearly ?_ ?_ ?_
    · apply List.ext_getElem
      · simp [cutTo_len]
      · intro i h1 h2
        rw [List.getElem_map, List.getElem_map, hat i (by simpa using h1) (by simpa using h2)]
        rfl
    · intro f hf
      obtain ⟨i, hi, rfl⟩ := List.getElem_of_mem hf
      have hi2 : i < s.files.length := by rw [cutTo_len] at hi; exact hi
      rw [hat i hi hi2]
      have := hleft i hi2
      unfold cutF
      simp only
      refine ⟨this.1, ?_⟩
      rw [List.length_take]
      omega
    · refine Int.le_trans (used_less _ s.files (cutTo_len _ _ _) ?_) h.used
      intro i h1 h2
      rw [hat i h1 h2]
      unfold cutF
      simp only
      rw [List.length_take]
      omega
  have h2 : NamesGood (cutTo keep s.files s.files.length) s.safe := hf.safe
  exact nearly_names hf h2
end Go.Proofs.YtnchjlimkgbfpaaGreatDoor
