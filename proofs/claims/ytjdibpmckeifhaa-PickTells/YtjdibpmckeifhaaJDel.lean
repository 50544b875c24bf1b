/- The program's DeleteFunc over tables. -/
import Derived.Test.YtjdibpmckeifhaaJOut
import Derived.Test.YtjdibpmckeifhaaUQ
namespace Go.Proofs.Ytjdibpmckeifhaa
open Go.RowKit
set_option linter.unusedVariables false
set_option linter.unusedSimpArgs false

instance : Inhabited Me := ⟨⟨0, 0, 0, ⟨#[]⟩, ⟨#[]⟩⟩⟩
theorem take_snocT {A : Type} (ls : List A) (k : Nat) (d : A) (h : k < ls.length) : ls.take (k + 1) = ls.take k ++ [ls.getD k d] := by
  rw [List.take_add_one]
  congr 1
  simp [List.getD, List.getElem?_eq_getElem h]
theorem OwnR.row5 {w : World} {base : Nat} {e : TypeId} {g n cap : Nat} {css : List (List Value)} (h : OwnR w base e 5 (.slice (some ⟨g, 0, none⟩) n cap) css) (hn : css.length = n) (j : Nat) (hj : j < n) (a b c d f : Value) :
    OwnR (((((w.setCell ⟨g, j * 5, none⟩ a).setCell ⟨g, j * 5 + 1, none⟩ b).setCell ⟨g, j * 5 + 2, none⟩ c).setCell ⟨g, j * 5 + 3, none⟩ d).setCell ⟨g, j * 5 + 4, none⟩ f) base e 5 (.slice (some ⟨g, 0, none⟩) n cap) (css.set j [a, b, c, d, f]) ∧ w.grownBy (((((w.setCell ⟨g, j * 5, none⟩ a).setCell ⟨g, j * 5 + 1, none⟩ b).setCell ⟨g, j * 5 + 2, none⟩ c).setCell ⟨g, j * 5 + 3, none⟩ d).setCell ⟨g, j * 5 + 4, none⟩ f) (some g) := by
  have h1 := h.set hn j hj 0 (by decide) a
  have h2 := h1.1.set (by simp [hn]) j hj 1 (by decide) b
  have h3 := h2.1.set (by simp [hn]) j hj 2 (by decide) c
  have h4 := h3.1.set (by simp [hn]) j hj 3 (by decide) d
  have h6 := h4.1.set (by simp [hn]) j hj 4 (by decide) f
  refine ⟨?_, grown_trans (grown_trans (grown_trans (grown_trans h1.2.1 h2.2.1) h3.2.1) h4.2.1) h6.2.1⟩
  have e3 : ∀ r : List Value, r.length = 5 → ((((r.set 0 a).set 1 b).set 2 c).set 3 d).set 4 f = [a, b, c, d, f] := by
    intro r hr
    match r, hr with
    | [x, y, z, u, t], _ => rfl
  have hjl : j < css.length := by omega
  have e4 := e3 css[j] (h.1 _ (List.getElem_mem hjl))
  have h5 := h6.1
  simp only [List.getD_eq_getElem?_getD, List.set_set, List.getElem?_set, hjl] at h5
  simpa [hjl, e4] using h5
theorem filter_take_snoc {A : Type} (p : A → Bool) (l : List A) (k : Nat) (d : A) (h : k < l.length) : (l.take (k + 1)).filter p = (l.take k).filter p ++ (if p (l.getD k d) then [l.getD k d] else []) := by
  rw [take_snocT l k d h, List.filter_append]
  congr 1
  by_cases q : p (l.getD k d) = true
  · rw [if_pos q, List.filter_cons_of_pos q]; rfl
  · rw [if_neg q, List.filter_cons_of_neg q]; rfl

theorem filter_len_take {A : Type} (p : A → Bool) (l : List A) (k : Nat) (hk : k ≤ l.length) : ((l.take k).filter p).length ≤ k := by
  have := List.length_filter_le p (l.take k)
  rw [List.length_take] at this
  omega


/-- The versions while some are being struck: i stay of the first j. -/
def StrE (w : World) (base : Nat) (v : Value) (p : Me → Bool) (m cur : List Me) (i j : Nat) : Prop :=
  cur.length = m.length ∧ i = ((m.take j).filter p).length ∧ cur.take i = (m.take j).filter p ∧ cur.drop j = m.drop j ∧ OwnR w base 70 5 v (cur.map meRow)
theorem stre_at {w : World} {base : Nat} {v : Value} {p : Me → Bool} {m cur : List Me} {i j : Nat} (h : StrE w base v p m cur i j) (hj : j < m.length) : cur.getD j default = m.getD j default := by
  have h1 := h.2.2.2.1
  have e := congrArg (fun l => l[0]?) h1
  simp only [List.getElem?_drop, Nat.add_zero] at e
  simp only [List.getD, e]
theorem stre_skip {w : World} {base : Nat} {v : Value} {p : Me → Bool} {m cur : List Me} {i j : Nat} (h : StrE w base v p m cur i j) (hj : j < m.length) (hp : p (m.getD j default) = false) : StrE w base v p m cur i (j + 1) := by
  obtain ⟨h1, h2, h3, h4, h5⟩ := h
  have e := filter_take_snoc p m j default hj
  rw [hp] at e
  simp only [Bool.false_eq_true, if_false, List.append_nil] at e
  refine ⟨h1, by rw [e]; exact h2, by rw [e]; exact h3, ?_, h5⟩
  have := congrArg (List.drop 1) h4
  simpa [List.drop_drop] using this
theorem stre_keep {w w' : World} {base : Nat} {v : Value} {p : Me → Bool} {m cur : List Me} {i j : Nat} (h : StrE w base v p m cur i j) (hj : j < m.length) (hij : i < j) (hp : p (m.getD j default) = true)
    (hw : OwnR w' base 70 5 v ((cur.map meRow).set i (meRow (m.getD j default)))) : StrE w' base v p m (cur.set i (m.getD j default)) (i + 1) (j + 1) := by
  obtain ⟨h1, h2, h3, h4, h5⟩ := h
  have e := filter_take_snoc p m j default hj
  rw [hp] at e
  simp only [if_true] at e
  refine ⟨by simpa using h1, by rw [e, List.length_append, ← h2]; rfl, ?_, ?_, ?_⟩
  · rw [e, ← h3]
    have hi : i < cur.length := by omega
    rw [take_snocT _ i default (by simpa using hi), List.take_set_of_le (Nat.le_refl _)]
    congr 1
    simp [List.getD, hi]
  · rw [List.drop_set_of_lt (by omega)]
    have := congrArg (List.drop 1) h4
    simpa [List.drop_drop] using this
  · rw [List.map_set]
    exact hw
theorem zeroE (w : World) : (zeroValue 70).run Try.prog w = .ok (.agg #[.int .i64 0, .int .i64 0, .int .i64 0, .string ⟨#[]⟩, .string ⟨#[]⟩]) w := by kernel_rfl

set_option maxHeartbeats 4000000 in
set_option maxRecDepth 100000 in
theorem delete_any (m : List Me) (v : Value) (f t : ByteArray) (NF NT base : Nat) (w : World) (hv : OwnR w base 70 5 v (m.map meRow)) (hl : m.length ≤ 4398046511104) (hf : w.cell? ⟨NF, 0, none⟩ = some (.string f)) (ht : w.cell? ⟨NT, 0, none⟩ = some (.string t))
    (hNF : ∀ g, v.ownBlock = some g → NF ≠ g ∧ NT ≠ g) :
    Calls Try.prog 43 #[v, .func (.func 44) #[] #[.pointer (some ⟨NF, 0, none⟩), .pointer (some ⟨NT, 0, none⟩)]] w fun e w' => ∃ a n c, e = .returned (.slice a n c) ∧ Hid (n = (m.filter (hitM f t)).length) ∧ Hid (OwnR w' base 70 5 (.slice a n c) ((m.filter (hitM f t)).map meRow)) ∧ Hid (w.grownBy w' v.ownBlock) := by
  have HI := hid (indexB_any m v f t NF NT w (Rws.own hv) hf ht)
  have HV : Hid (OwnR w base 70 5 v (m.map meRow) ∧ w.cell? ⟨NF, 0, none⟩ = some (.string f) ∧ w.cell? ⟨NT, 0, none⟩ = some (.string t)) := ⟨hv, hf, ht⟩
  obtain ⟨a, cap, ev, hcap, hmax⟩ := (Rws.own hv).len
  rw [List.length_map] at ev hcap
  clear hv hf ht
  unfold maxLen at hmax
  have hpo : ∀ y, hitM f t y = !(missM f t y) := fun y => by unfold missM; simp
  subst ev
  go_enter Try.func43, Try.ntmps43
  go_wp2_with fail
  refine HI.out.mono ?_
  rintro e w1 ⟨r, rfl, HX, up1⟩
  rcases HX.out with ⟨rfl, hall⟩ | ⟨k, hk, rfl, hall, htt⟩
  · have HF : Hid (m.filter (hitM f t) = m) := List.filter_eq_self.2 fun y hy => by rw [hpo y, hall y hy]; rfl
    clear hall HX HI
    go_wp2_with fail
    go_ret
    refine ⟨_, _, _, rfl, ?_, ?_, grown_up up1.out _⟩
    · rw [HF.out]; rfl
    · rw [HF.out]
      exact HV.out.1.up up1.out
  · have hshape : ∃ g, a = some ⟨g, 0, none⟩ := by
      rcases HV.out.1.2.2 with ⟨e2, e3⟩ | ⟨g, cap', cur, e2, _⟩
      · rw [List.length_map] at e3; omega
      · simp at e2
        exact ⟨g, e2.1⟩
    obtain ⟨g, rfl⟩ := hshape
    have HNB : Hid (NF ≠ g ∧ NT ≠ g) := hNF g rfl
    have HSt : Hid (StrE w base (.slice (some ⟨g, 0, none⟩) m.length cap) (hitM f t) m m k (k + 1)) := by
      have ef : (m.take (k + 1)).filter (hitM f t) = m.take k := by
        rw [filter_take_snoc (hitM f t) m k default hk]
        rw [hpo (m.getD k default), htt default]
        simp only [Bool.not_true, Bool.false_eq_true, if_false, List.append_nil]
        refine List.filter_eq_self.2 fun y hy => ?_
        rw [hpo y, hall y hy]; rfl
      exact ⟨rfl, by simp only [ef, List.length_take]; omega, by rw [ef], rfl, HV.out.1⟩
    have hk1 : ((k : Int) == -1) = false := by rw [beq_eq_false_iff_ne]; omega
    clear hall htt HI HX
    go_wp2_with fail
    go_loopw [5, 6] (fun si sj wr => ∃ (i j : Nat) (cur : List Me), i < j ∧ j ≤ m.length ∧ si = .int .i64 i ∧ sj = .int .i64 j ∧ Hid (StrE wr base (.slice (some ⟨g, 0, none⟩) m.length cap) (hitM f t) m cur i j) ∧ Hid (w.grownBy wr (some g))) (fun _ j _ => m.length - (intOf j).toNat)
    case atStart =>
      obtain ⟨h1, h2, h3, h4, h5⟩ := HSt.out
      exact ⟨k, k + 1, m, by omega, by omega, rfl, by go_num, ⟨h1, h2, h3, h4, h5.up up1.out⟩, grown_up up1.out _⟩
    case round =>
      clear HSt up1
      obtain ⟨i, j, cur, hij, hjm, rfl, rfl, HS, HG⟩ := hrel
      by_cases hlt : j < m.length
      · have hlt' : (j : Int) < (m.length : Int) := by omega
        have hcl := HS.out.1
        have hlc : (cur.map meRow).length = m.length := by rw [List.length_map]; exact hcl
        have HO : Hid (OwnR wr base 70 5 (.slice (some ⟨g, 0, none⟩) m.length cap) (cur.map meRow)) := HS.out.2.2.2.2
        have HAt : Hid (cur.getD j default = m.getD j default) := stre_at HS.out hlt
        obtain ⟨b', off', cap', e2, _, _, hc⟩ := (Rws.own HO.out).at j (by rw [hlc]; exact hlt)
        rw [hlc] at e2
        simp at e2
        obtain ⟨⟨rfl, rfl⟩, rfl⟩ := e2
        have hrow : (cur.map meRow).getD j [] = meRow (m.getD j default) := by
          rw [← HAt.out]
          have : j < cur.length := by omega
          simp [List.getD, this]
        rw [hrow] at hc
        have c0 := hc 0 _ rfl
        have c1 := hc 1 _ rfl
        have c2 := hc 2 _ rfl
        have c3 := hc 3 _ rfl
        have c4 := hc 4 _ rfl
        simp only [Nat.zero_add, Nat.add_zero] at c0 c1 c2 c3 c4
        obtain ⟨b', off', cap', e2, _, _, hci⟩ := (Rws.own HO.out).at i (by rw [hlc]; omega)
        rw [hlc] at e2
        simp at e2
        obtain ⟨⟨rfl, rfl⟩, rfl⟩ := e2
        have hrl : ((cur.map meRow).getD i []).length = 5 := HO.out.1 _ (by
          have : i < cur.length := by omega
          rw [List.getD_eq_getElem?_getD, List.getElem?_eq_getElem (by simpa using this)]
          exact List.getElem_mem _)
        obtain ⟨z0, z1, z2, z3, z4, ez⟩ : ∃ z0 z1 z2 z3 z4, (cur.map meRow).getD i [] = [z0, z1, z2, z3, z4] := by
          match h : (cur.map meRow).getD i [], hrl with
          | [x, y, z, u, t], _ => exact ⟨x, y, z, u, t, rfl⟩
        rw [ez] at hci
        have d0 := hci 0 _ rfl
        have d1 := hci 1 _ rfl
        have d2 := hci 2 _ rfl
        have d3 := hci 3 _ rfl
        have d4 := hci 4 _ rfl
        simp only [Nat.zero_add, Nat.add_zero] at d0 d1 d2 d3 d4
        have fz : ∀ q, wr.frozen? ⟨g, q, none⟩ = false := fun q => by
          obtain ⟨cur', hh, _⟩ := HO.out.blk
          exact blk_frozen hh q
        have HCell : Hid (wr.cell? ⟨NF, 0, none⟩ = some (.string f) ∧ wr.cell? ⟨NT, 0, none⟩ = some (.string t)) := ⟨HG.out.cell HV.out.2.1 (fun q => HNB.out.1 (by simpa using q)), HG.out.cell HV.out.2.2 (fun q => HNB.out.2 (by simpa using q))⟩
        have HSkip : Hid (hitM f t (m.getD j default) = false → StrE wr base (.slice (some ⟨g, 0, none⟩) m.length cap) (hitM f t) m cur i (j + 1)) := stre_skip HS.out hlt
        have HKeep : Hid (hitM f t (m.getD j default) = true → ∀ w', OwnR w' base 70 5 (.slice (some ⟨g, 0, none⟩) m.length cap) ((cur.map meRow).set i (meRow (m.getD j default))) → StrE w' base (.slice (some ⟨g, 0, none⟩) m.length cap) (hitM f t) m (cur.set i (m.getD j default)) (i + 1) (j + 1)) := fun h w' ho => stre_keep HS.out hlt hij h ho
        clear hc hci hrow hrl ez
        generalize m.getD j default = y at *
        obtain ⟨wx, hwx⟩ : ∃ wx, wx = wr.alloc (.cells #[.int .i64 y.id, .int .i64 y.lvl, .int .i64 y.cnt, .string y.low, .string y.high] 70) := ⟨_, rfl⟩
        have upx : Hid (Below wr.heap.size wr wx) := by rw [hwx]; exact up_al (Below.refl _ _) _
        have HX : Hid (wr.alloc (.cells #[.int .i64 y.id, .int .i64 y.lvl, .int .i64 y.cnt, .string y.low, .string y.high] 70) = wx) := hwx.symm
        have bx : wx.heap[wr.heap.size]? = some (.cells #[.int .i64 y.id, .int .i64 y.lvl, .int .i64 y.cnt, .string y.low, .string y.high] 70) := by rw [hwx]; exact blk_new _ _
        have x0 := blk_cell bx 0 _ rfl
        have x1 := blk_cell bx 1 _ rfl
        have x2 := blk_cell bx 2 _ rfl
        have x3 := blk_cell bx 3 _ rfl
        have x4 := blk_cell bx 4 _ rfl
        have hcl2 := hid (outside_any y f t NF NT wx ((upx.out.cell (World.block_lt_of_cell? wr _ HCell.out.1)).trans HCell.out.1) ((upx.out.cell (World.block_lt_of_cell? wr _ HCell.out.2)).trans HCell.out.2))
        unfold meV at hcl2
        have HPO : Hid (hitM f t y = !(missM f t y)) := hpo y
        clear hwx hpo
        go_upto_region 8 with fail
        rw [HX.out]
        cases hst : missM f t y with
        | true =>
          rw [hst] at hcl2
          have HS2 : Hid (StrE wr base (.slice (some ⟨g, 0, none⟩) m.length cap) (hitM f t) m cur i (j + 1)) := HSkip.out (by rw [HPO.out, hst]; rfl)
          clear hst
          go_wp2_with fail
          refine hcl2.out.mono ?_
          rintro e w1 ⟨rfl, hb1⟩
          have up1 : Hid (Below wr.heap.size wr w1) := up_trans upx.out hb1
          have HS3 : Hid (StrE w1 base (.slice (some ⟨g, 0, none⟩) m.length cap) (hitM f t) m cur i (j + 1)) := ⟨HS2.out.1, HS2.out.2.1, HS2.out.2.2.1, HS2.out.2.2.2.1, HS2.out.2.2.2.2.up up1.out⟩
          clear hb1 hcl2 c0 c1 c2 c3 c4 d0 d1 d2 d3 d4 x0 x1 x2 x3 x4 fz bx
          go_wp2_with fail
          exact ⟨⟨i, j + 1, cur, by omega, by omega, rfl, by go_num, HS3, grown_trans HG.out (grown_up up1.out _)⟩, by simp [intOf]; omega⟩
        | false =>
          rw [hst] at hcl2
          have HYES : Hid (hitM f t y = true) := by unfold Hid; rw [HPO.out, hst]; rfl
          clear hst
          go_wp2_with fail
          refine hcl2.out.mono ?_
          rintro e w1 ⟨rfl, hb1⟩
          have up1 : Hid (Below wr.heap.size wr w1) := up_trans upx.out hb1
          have y0 := (hb1.cell (World.block_lt_of_cell? wx _ x0)).trans x0
          have y1 := (hb1.cell (World.block_lt_of_cell? wx _ x1)).trans x1
          have y2 := (hb1.cell (World.block_lt_of_cell? wx _ x2)).trans x2
          have y3 := (hb1.cell (World.block_lt_of_cell? wx _ x3)).trans x3
          have y4 := (hb1.cell (World.block_lt_of_cell? wx _ x4)).trans x4
          have k0 := (up1.out.cell (World.block_lt_of_cell? wr _ d0)).trans d0
          have k1 := (up1.out.cell (World.block_lt_of_cell? wr _ d1)).trans d1
          have k2 := (up1.out.cell (World.block_lt_of_cell? wr _ d2)).trans d2
          have k3 := (up1.out.cell (World.block_lt_of_cell? wr _ d3)).trans d3
          have k4 := (up1.out.cell (World.block_lt_of_cell? wr _ d4)).trans d4
          have f0 := (up1.out.frozen (p := ⟨g, i * 5, none⟩) (World.block_lt_of_cell? wr _ d0)).trans (fz _)
          have f1 := (up1.out.frozen (p := ⟨g, i * 5 + 1, none⟩) (World.block_lt_of_cell? wr _ d1)).trans (fz _)
          have f2 := (up1.out.frozen (p := ⟨g, i * 5 + 2, none⟩) (World.block_lt_of_cell? wr _ d2)).trans (fz _)
          have f3 := (up1.out.frozen (p := ⟨g, i * 5 + 3, none⟩) (World.block_lt_of_cell? wr _ d3)).trans (fz _)
          have f4 := (up1.out.frozen (p := ⟨g, i * 5 + 4, none⟩) (World.block_lt_of_cell? wr _ d4)).trans (fz _)
          have r3 := OwnR.row5 (HO.out.up up1.out) hlc i (by omega) (.int .i64 y.id) (.int .i64 y.lvl) (.int .i64 y.cnt) (.string y.low) (.string y.high)
          have HS3 := hid (HKeep.out HYES.out _ r3.1)
          have HG3 := hid (grown_trans (grown_trans HG.out (grown_up up1.out _)) r3.2)
          have hii : (i : Int) < (m.length : Int) := by omega
          clear hb1 hcl2 c0 c1 c2 c3 c4 d0 d1 d2 d3 d4 x0 x1 x2 x3 x4 fz r3 bx
          go_wp2_with fail
          exact ⟨⟨i + 1, j + 1, _, by omega, by omega, by go_num, by go_num, HS3, HG3⟩, by simp [intOf]; omega⟩
      · have hlt' : ¬ (j : Int) < (m.length : Int) := by omega
        obtain rfl : j = m.length := by omega
        have hlc : (cur.map meRow).length = m.length := by rw [List.length_map]; exact HS.out.1
        obtain ⟨cu, hh, hbg, hnc, hmx, hsz, _, _⟩ := HS.out.2.2.2.2.blk
        have hfit : i * 5 + (m.length - i) * 5 ≤ cu.size := by rw [hsz]; omega
        have hcl := fun ty c => run_clear_rows wr 25 70 ty (.agg #[.int .i64 0, .int .i64 0, .int .i64 0, .string ⟨#[]⟩, .string ⟨#[]⟩]) Try.underlying25 zeroE (by decide) g (i * 5) (m.length - i) c (by omega) cu hh (by simpa [Value.cells] using hfit)
        generalize hzc : (Builtin.zeroCells (Value.agg #[.int .i64 0, .int .i64 0, .int .i64 0, .string ⟨#[]⟩, .string ⟨#[]⟩]).cells (m.length - i)).toList = zs at hcl
        have hzl : zs.length = (m.length - i) * 5 := by rw [← hzc]; simp [Builtin.zeroCells, Value.cells]
        obtain ⟨wz, hwz⟩ : ∃ wz, wz = wr.setRow g (over cu.toList (i * 5) zs).toArray := ⟨_, rfl⟩
        have hrow := blk_setRow hh (over cu.toList (i * 5) zs).toArray
        rw [← hwz] at hrow hcl
        have HO : Hid (OwnR wz base 70 5 (.slice (some ⟨g, 0, none⟩) i cap) ((m.filter (hitM f t)).map meRow)) := by
          have := HS.out.2.2.2.2.firstOver i (by omega) cu hh zs (by rw [hzl]; exact hfit) hrow.1
          rw [← List.map_take, HS.out.2.2.1, List.take_length] at this
          exact this
        have HIL : Hid (i = (m.filter (hitM f t)).length) := by
          have := HS.out.2.1
          rwa [List.take_length] at this
        have HG2 : Hid (w.grownBy wz (some g)) := grown_trans HG.out hrow.2
        have hin : (i : Int) ≤ (m.length : Int) := by omega
        have hne1 : ¬ cap = i := by omega
        clear hwz hrow hh hsz hfit hzc hzl
        go_wp2_with fail
        go_ret
        exact ⟨_, _, _, rfl, HIL, HO.out, HG2.out⟩
end Go.Proofs.Ytjdibpmckeifhaa
