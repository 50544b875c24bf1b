/- The program's DeleteFunc over versions, and Between, of layer 10. -/
import Derived.Test.YtekoniaobmapdaaUBet
import Derived.Test.YtekoniaobmapdaaG33
namespace Go.Proofs.Ytekoniaobmapdaa
open Go.RowKit SumPlain
set_option linter.unusedVariables false
set_option linter.unusedSimpArgs false

theorem rows_oneB (l : List En) : ∀ cs ∈ l.map enRow, ∀ u ∈ cs, u.oneCell' = true := by
  intro cs hcs u hu
  obtain ⟨x, _, rfl⟩ := List.mem_map.1 hcs
  simp [enRow] at hu
  rcases hu with rfl | rfl | rfl | rfl <;> rfl
theorem rows_shapeB {w : World} {base : Nat} {e : TypeId} {sz : Nat} {v : Value} {css : List (List Value)} (h : OwnR w base e sz v css) : ∃ a n c, v = .slice a n c := by
  obtain ⟨a, c, e, _, _⟩ := (Rws.own h).len
  exact ⟨a, _, c, e⟩
theorem take_snocT {A : Type} (ls : List A) (k : Nat) (d : A) (h : k < ls.length) : ls.take (k + 1) = ls.take k ++ [ls.getD k d] := by
  rw [List.take_add_one]
  congr 1
  simp [List.getD, List.getElem?_eq_getElem h]
theorem OwnR.row4 {w : World} {base : Nat} {e : TypeId} {g n cap : Nat} {css : List (List Value)} (h : OwnR w base e 4 (.slice (some ⟨g, 0, none⟩) n cap) css) (hn : css.length = n) (j : Nat) (hj : j < n) (a b c d : Value) :
    OwnR ((((w.setCell ⟨g, j * 4, none⟩ a).setCell ⟨g, j * 4 + 1, none⟩ b).setCell ⟨g, j * 4 + 2, none⟩ c).setCell ⟨g, j * 4 + 3, none⟩ d) base e 4 (.slice (some ⟨g, 0, none⟩) n cap) (css.set j [a, b, c, d]) ∧ w.grownBy ((((w.setCell ⟨g, j * 4, none⟩ a).setCell ⟨g, j * 4 + 1, none⟩ b).setCell ⟨g, j * 4 + 2, none⟩ c).setCell ⟨g, j * 4 + 3, none⟩ d) (some g) := by
  have h1 := h.set hn j hj 0 (by decide) a
  have h2 := h1.1.set (by simp [hn]) j hj 1 (by decide) b
  have h3 := h2.1.set (by simp [hn]) j hj 2 (by decide) c
  have h4 := h3.1.set (by simp [hn]) j hj 3 (by decide) d
  refine ⟨?_, grown_trans (grown_trans (grown_trans h1.2.1 h2.2.1) h3.2.1) h4.2.1⟩
  have e3 : ∀ r : List Value, r.length = 4 → (((r.set 0 a).set 1 b).set 2 c).set 3 d = [a, b, c, d] := by
    intro r hr
    match r, hr with
    | [x, y, z, u], _ => rfl
  have hjl : j < css.length := by omega
  have e4 := e3 css[j] (h.1 _ (List.getElem_mem hjl))
  have h5 := h4.1
  simp only [List.getD_eq_getElem?_getD, List.set_set, List.getElem?_set, hjl] at h5
  simpa [hjl, e4] using h5
theorem filter_take_snoc {A : Type} (p : A → Bool) (l : List A) (k : Nat) (d : A) (h : k < l.length) : (l.take (k + 1)).filter p = (l.take k).filter p ++ (if p (l.getD k d) then [l.getD k d] else []) := by
  rw [take_snocT l k d h, List.filter_append]
  congr 1
  by_cases q : p (l.getD k d) = true
  · rw [if_pos q, List.filter_cons_of_pos q]; rfl
  · rw [if_neg q, List.filter_cons_of_neg q]; rfl

theorem filter_len_take {A : Type} (p : A → Bool) (l : List A) (k : Nat) (hk : k ≤ l.length) : ((l.take k).filter p).length ≤ k := by
  have := List.length_filter_le p (l.take k)
  rw [List.length_take] at this
  omega


/-- The versions while some are being struck: i stay of the first j. -/
def StrE (w : World) (base : Nat) (v : Value) (p : En → Bool) (m cur : List En) (i j : Nat) : Prop :=
  cur.length = m.length ∧ i = ((m.take j).filter p).length ∧ cur.take i = (m.take j).filter p ∧ cur.drop j = m.drop j ∧ OwnR w base 39 4 v (cur.map enRow)
theorem stre_at {w : World} {base : Nat} {v : Value} {p : En → Bool} {m cur : List En} {i j : Nat} (h : StrE w base v p m cur i j) (hj : j < m.length) : cur.getD j default = m.getD j default := by
  have h1 := h.2.2.2.1
  have e := congrArg (fun l => l[0]?) h1
  simp only [List.getElem?_drop, Nat.add_zero] at e
  simp only [List.getD, e]
theorem stre_skip {w : World} {base : Nat} {v : Value} {p : En → Bool} {m cur : List En} {i j : Nat} (h : StrE w base v p m cur i j) (hj : j < m.length) (hp : p (m.getD j default) = false) : StrE w base v p m cur i (j + 1) := by
  obtain ⟨h1, h2, h3, h4, h5⟩ := h
  have e := filter_take_snoc p m j default hj
  rw [hp] at e
  simp only [Bool.false_eq_true, if_false, List.append_nil] at e
  refine ⟨h1, by rw [e]; exact h2, by rw [e]; exact h3, ?_, h5⟩
  have := congrArg (List.drop 1) h4
  simpa [List.drop_drop] using this
theorem stre_keep {w w' : World} {base : Nat} {v : Value} {p : En → Bool} {m cur : List En} {i j : Nat} (h : StrE w base v p m cur i j) (hj : j < m.length) (hij : i < j) (hp : p (m.getD j default) = true)
    (hw : OwnR w' base 39 4 v ((cur.map enRow).set i (enRow (m.getD j default)))) : StrE w' base v p m (cur.set i (m.getD j default)) (i + 1) (j + 1) := by
  obtain ⟨h1, h2, h3, h4, h5⟩ := h
  have e := filter_take_snoc p m j default hj
  rw [hp] at e
  simp only [if_true] at e
  refine ⟨by simpa using h1, by rw [e, List.length_append, ← h2]; rfl, ?_, ?_, ?_⟩
  · rw [e, ← h3]
    have hi : i < cur.length := by omega
    rw [take_snocT _ i default (by simpa using hi), List.take_set_of_le (Nat.le_refl _)]
    congr 1
    simp [List.getD, hi]
  · rw [List.drop_set_of_lt (by omega)]
    have := congrArg (List.drop 1) h4
    simpa [List.drop_drop] using this
  · rw [List.map_set]
    exact hw
theorem zeroE (w : World) : (zeroValue 39).run Try.prog w = .ok (.agg #[.string ⟨#[]⟩, .int .i64 0, .int .i64 0, .string ⟨#[]⟩]) w := by kernel_rfl

set_option maxHeartbeats 4000000 in
set_option maxRecDepth 100000 in
theorem delete_any (m : List En) (v : Value) (f t : ByteArray) (NF NT base : Nat) (w : World) (hv : OwnR w base 39 4 v (m.map enRow)) (hl : m.length ≤ 4398046511104) (hf : w.cell? ⟨NF, 0, none⟩ = some (.string f)) (ht : w.cell? ⟨NT, 0, none⟩ = some (.string t))
    (hNF : NF < base) (hNT : NT < base) :
    Calls Try.prog 29 #[v, .func (.func 28) #[] #[.pointer (some ⟨NF, 0, none⟩), .pointer (some ⟨NT, 0, none⟩)]] w fun e w' => ∃ a n c, e = .returned (.slice a n c) ∧ Hid (n = (m.filter (inB f t)).length) ∧ Hid (OwnR w' base 39 4 (.slice a n c) ((m.filter (inB f t)).map enRow)) ∧ Hid (w.grownBy w' v.ownBlock) := by
  have HI := hid (indexB_any m v f t NF NT w (Rws.own hv) hf ht)
  have HV : Hid (OwnR w base 39 4 v (m.map enRow) ∧ w.cell? ⟨NF, 0, none⟩ = some (.string f) ∧ w.cell? ⟨NT, 0, none⟩ = some (.string t)) := ⟨hv, hf, ht⟩
  obtain ⟨a, cap, ev, hcap, hmax⟩ := (Rws.own hv).len
  rw [List.length_map] at ev hcap
  clear hv hf ht
  unfold maxLen at hmax
  have hpo : ∀ y, inB f t y = !(outB f t y) := fun y => by unfold outB; simp
  subst ev
  go_enter Try.func29, Try.ntmps29
  go_wp2_with fail
  refine HI.out.mono ?_
  rintro e w1 ⟨r, rfl, HX, up1⟩
  rcases HX.out with ⟨rfl, hall⟩ | ⟨k, hk, rfl, hall, htt⟩
  · have HF : Hid (m.filter (inB f t) = m) := List.filter_eq_self.2 fun y hy => by rw [hpo y, hall y hy]; rfl
    clear hall HX HI
    go_wp2_with fail
    go_ret
    refine ⟨_, _, _, rfl, ?_, ?_, grown_up up1.out _⟩
    · rw [HF.out]; rfl
    · rw [HF.out]
      exact HV.out.1.up up1.out
  · have hshape : ∃ g, a = some ⟨g, 0, none⟩ := by
      rcases HV.out.1.2.2 with ⟨e2, e3⟩ | ⟨g, cap', cur, e2, _⟩
      · rw [List.length_map] at e3; omega
      · simp at e2
        exact ⟨g, e2.1⟩
    obtain ⟨g, rfl⟩ := hshape
    have HNB : Hid (NF ≠ g ∧ NT ≠ g) := by have := (HV.out.1.2.lt g rfl).1; exact ⟨by omega, by omega⟩
    have HSt : Hid (StrE w base (.slice (some ⟨g, 0, none⟩) m.length cap) (inB f t) m m k (k + 1)) := by
      have ef : (m.take (k + 1)).filter (inB f t) = m.take k := by
        rw [filter_take_snoc (inB f t) m k default hk]
        rw [hpo (m.getD k default), htt default]
        simp only [Bool.not_true, Bool.false_eq_true, if_false, List.append_nil]
        refine List.filter_eq_self.2 fun y hy => ?_
        rw [hpo y, hall y hy]; rfl
      exact ⟨rfl, by simp only [ef, List.length_take]; omega, by rw [ef], rfl, HV.out.1⟩
    have hk1 : ((k : Int) == -1) = false := by rw [beq_eq_false_iff_ne]; omega
    clear hall htt HI HX
    go_wp2_with fail
    go_loopw [5, 6] (fun si sj wr => ∃ (i j : Nat) (cur : List En), i < j ∧ j ≤ m.length ∧ si = .int .i64 i ∧ sj = .int .i64 j ∧ Hid (StrE wr base (.slice (some ⟨g, 0, none⟩) m.length cap) (inB f t) m cur i j) ∧ Hid (w.grownBy wr (some g))) (fun _ j _ => m.length - (intOf j).toNat)
    case atStart =>
      obtain ⟨h1, h2, h3, h4, h5⟩ := HSt.out
      exact ⟨k, k + 1, m, by omega, by omega, rfl, by go_num, ⟨h1, h2, h3, h4, h5.up up1.out⟩, grown_up up1.out _⟩
    case round =>
      clear HSt up1
      obtain ⟨i, j, cur, hij, hjm, rfl, rfl, HS, HG⟩ := hrel
      by_cases hlt : j < m.length
      · have hlt' : (j : Int) < (m.length : Int) := by omega
        have hcl := HS.out.1
        have hlc : (cur.map enRow).length = m.length := by rw [List.length_map]; exact hcl
        have HO : Hid (OwnR wr base 39 4 (.slice (some ⟨g, 0, none⟩) m.length cap) (cur.map enRow)) := HS.out.2.2.2.2
        have HAt : Hid (cur.getD j default = m.getD j default) := stre_at HS.out hlt
        obtain ⟨b', off', cap', e2, _, _, hc⟩ := (Rws.own HO.out).at j (by rw [hlc]; exact hlt)
        rw [hlc] at e2
        simp at e2
        obtain ⟨⟨rfl, rfl⟩, rfl⟩ := e2
        have hrow : (cur.map enRow).getD j [] = enRow (m.getD j default) := by
          rw [← HAt.out]
          have : j < cur.length := by omega
          simp [List.getD, this]
        rw [hrow] at hc
        have c0 := hc 0 _ rfl
        have c1 := hc 1 _ rfl
        have c2 := hc 2 _ rfl
        have c3 := hc 3 _ rfl
        simp only [Nat.zero_add, Nat.add_zero] at c0 c1 c2 c3
        obtain ⟨b', off', cap', e2, _, _, hci⟩ := (Rws.own HO.out).at i (by rw [hlc]; omega)
        rw [hlc] at e2
        simp at e2
        obtain ⟨⟨rfl, rfl⟩, rfl⟩ := e2
        have hrl : ((cur.map enRow).getD i []).length = 4 := HO.out.1 _ (by
          have : i < cur.length := by omega
          rw [List.getD_eq_getElem?_getD, List.getElem?_eq_getElem (by simpa using this)]
          exact List.getElem_mem _)
        obtain ⟨z0, z1, z2, z3, ez⟩ : ∃ z0 z1 z2 z3, (cur.map enRow).getD i [] = [z0, z1, z2, z3] := by
          match h : (cur.map enRow).getD i [], hrl with
          | [x, y, z, u], _ => exact ⟨x, y, z, u, rfl⟩
        rw [ez] at hci
        have d0 := hci 0 _ rfl
        have d1 := hci 1 _ rfl
        have d2 := hci 2 _ rfl
        have d3 := hci 3 _ rfl
        simp only [Nat.zero_add, Nat.add_zero] at d0 d1 d2 d3
        have fz : ∀ q, wr.frozen? ⟨g, q, none⟩ = false := fun q => by
          obtain ⟨cur', hh, _⟩ := HO.out.blk
          exact blk_frozen hh q
        have HCell : Hid (wr.cell? ⟨NF, 0, none⟩ = some (.string f) ∧ wr.cell? ⟨NT, 0, none⟩ = some (.string t)) := ⟨HG.out.cell HV.out.2.1 (fun q => HNB.out.1 (by simpa using q)), HG.out.cell HV.out.2.2 (fun q => HNB.out.2 (by simpa using q))⟩
        have HSkip : Hid (inB f t (m.getD j default) = false → StrE wr base (.slice (some ⟨g, 0, none⟩) m.length cap) (inB f t) m cur i (j + 1)) := stre_skip HS.out hlt
        have HKeep : Hid (inB f t (m.getD j default) = true → ∀ w', OwnR w' base 39 4 (.slice (some ⟨g, 0, none⟩) m.length cap) ((cur.map enRow).set i (enRow (m.getD j default))) → StrE w' base (.slice (some ⟨g, 0, none⟩) m.length cap) (inB f t) m (cur.set i (m.getD j default)) (i + 1) (j + 1)) := fun h w' ho => stre_keep HS.out hlt hij h ho
        clear hc hci hrow hrl ez
        generalize m.getD j default = y at *
        obtain ⟨wx, hwx⟩ : ∃ wx, wx = wr.alloc (.cells #[.string y.key, .int .i64 y.seq, .int .i64 y.kind, .string y.val] 39) := ⟨_, rfl⟩
        have upx : Hid (Below wr.heap.size wr wx) := by rw [hwx]; exact up_al (Below.refl _ _) _
        have HX : Hid (wr.alloc (.cells #[.string y.key, .int .i64 y.seq, .int .i64 y.kind, .string y.val] 39) = wx) := hwx.symm
        have bx : wx.heap[wr.heap.size]? = some (.cells #[.string y.key, .int .i64 y.seq, .int .i64 y.kind, .string y.val] 39) := by rw [hwx]; exact blk_new _ _
        have x0 := blk_cell bx 0 _ rfl
        have x1 := blk_cell bx 1 _ rfl
        have x2 := blk_cell bx 2 _ rfl
        have x3 := blk_cell bx 3 _ rfl
        have hcl2 := hid (outside_any y f t NF NT wx ((upx.out.cell (World.block_lt_of_cell? wr _ HCell.out.1)).trans HCell.out.1) ((upx.out.cell (World.block_lt_of_cell? wr _ HCell.out.2)).trans HCell.out.2))
        unfold enV at hcl2
        have HPO : Hid (inB f t y = !(outB f t y)) := hpo y
        clear hwx hpo
        go_upto_region 8 with fail
        rw [HX.out]
        cases hst : outB f t y with
        | true =>
          rw [hst] at hcl2
          have HS2 : Hid (StrE wr base (.slice (some ⟨g, 0, none⟩) m.length cap) (inB f t) m cur i (j + 1)) := HSkip.out (by rw [HPO.out, hst]; rfl)
          clear hst
          go_wp2_with fail
          refine hcl2.out.mono ?_
          rintro e w1 ⟨rfl, hb1⟩
          have up1 : Hid (Below wr.heap.size wr w1) := up_trans upx.out hb1
          have HS3 : Hid (StrE w1 base (.slice (some ⟨g, 0, none⟩) m.length cap) (inB f t) m cur i (j + 1)) := ⟨HS2.out.1, HS2.out.2.1, HS2.out.2.2.1, HS2.out.2.2.2.1, HS2.out.2.2.2.2.up up1.out⟩
          clear hb1 hcl2 c0 c1 c2 c3 d0 d1 d2 d3 x0 x1 x2 x3 fz bx
          go_wp2_with fail
          exact ⟨⟨i, j + 1, cur, by omega, by omega, rfl, by go_num, HS3, grown_trans HG.out (grown_up up1.out _)⟩, by simp [intOf]; omega⟩
        | false =>
          rw [hst] at hcl2
          have HYES : Hid (inB f t y = true) := by unfold Hid; rw [HPO.out, hst]; rfl
          clear hst
          go_wp2_with fail
          refine hcl2.out.mono ?_
          rintro e w1 ⟨rfl, hb1⟩
          have up1 : Hid (Below wr.heap.size wr w1) := up_trans upx.out hb1
          have y0 := (hb1.cell (World.block_lt_of_cell? wx _ x0)).trans x0
          have y1 := (hb1.cell (World.block_lt_of_cell? wx _ x1)).trans x1
          have y2 := (hb1.cell (World.block_lt_of_cell? wx _ x2)).trans x2
          have y3 := (hb1.cell (World.block_lt_of_cell? wx _ x3)).trans x3
          have k0 := (up1.out.cell (World.block_lt_of_cell? wr _ d0)).trans d0
          have k1 := (up1.out.cell (World.block_lt_of_cell? wr _ d1)).trans d1
          have k2 := (up1.out.cell (World.block_lt_of_cell? wr _ d2)).trans d2
          have k3 := (up1.out.cell (World.block_lt_of_cell? wr _ d3)).trans d3
          have f0 := (up1.out.frozen (p := ⟨g, i * 4, none⟩) (World.block_lt_of_cell? wr _ d0)).trans (fz _)
          have f1 := (up1.out.frozen (p := ⟨g, i * 4 + 1, none⟩) (World.block_lt_of_cell? wr _ d1)).trans (fz _)
          have f2 := (up1.out.frozen (p := ⟨g, i * 4 + 2, none⟩) (World.block_lt_of_cell? wr _ d2)).trans (fz _)
          have f3 := (up1.out.frozen (p := ⟨g, i * 4 + 3, none⟩) (World.block_lt_of_cell? wr _ d3)).trans (fz _)
          have r3 := OwnR.row4 (HO.out.up up1.out) hlc i (by omega) (.string y.key) (.int .i64 y.seq) (.int .i64 y.kind) (.string y.val)
          have HS3 := hid (HKeep.out HYES.out _ r3.1)
          have HG3 := hid (grown_trans (grown_trans HG.out (grown_up up1.out _)) r3.2)
          have hii : (i : Int) < (m.length : Int) := by omega
          clear hb1 hcl2 c0 c1 c2 c3 d0 d1 d2 d3 x0 x1 x2 x3 fz r3 bx
          go_wp2_with fail
          exact ⟨⟨i + 1, j + 1, _, by omega, by omega, by go_num, by go_num, HS3, HG3⟩, by simp [intOf]; omega⟩
      · have hlt' : ¬ (j : Int) < (m.length : Int) := by omega
        obtain rfl : j = m.length := by omega
        have hlc : (cur.map enRow).length = m.length := by rw [List.length_map]; exact HS.out.1
        obtain ⟨cu, hh, hbg, hnc, hmx, hsz, _, _⟩ := HS.out.2.2.2.2.blk
        have hfit : i * 4 + (m.length - i) * 4 ≤ cu.size := by rw [hsz]; omega
        have hcl := fun ty c => run_clear_rows wr 22 39 ty (.agg #[.string ⟨#[]⟩, .int .i64 0, .int .i64 0, .string ⟨#[]⟩]) Try.underlying22 zeroE (by decide) g (i * 4) (m.length - i) c (by omega) cu hh (by simpa [Value.cells] using hfit)
        generalize hzc : (Builtin.zeroCells (Value.agg #[.string ⟨#[]⟩, .int .i64 0, .int .i64 0, .string ⟨#[]⟩]).cells (m.length - i)).toList = zs at hcl
        have hzl : zs.length = (m.length - i) * 4 := by rw [← hzc]; simp [Builtin.zeroCells, Value.cells]
        obtain ⟨wz, hwz⟩ : ∃ wz, wz = wr.setRow g (over cu.toList (i * 4) zs).toArray := ⟨_, rfl⟩
        have hrow := blk_setRow hh (over cu.toList (i * 4) zs).toArray
        rw [← hwz] at hrow hcl
        have HO : Hid (OwnR wz base 39 4 (.slice (some ⟨g, 0, none⟩) i cap) ((m.filter (inB f t)).map enRow)) := by
          have := HS.out.2.2.2.2.firstOver i (by omega) cu hh zs (by rw [hzl]; exact hfit) hrow.1
          rw [← List.map_take, HS.out.2.2.1, List.take_length] at this
          exact this
        have HIL : Hid (i = (m.filter (inB f t)).length) := by
          have := HS.out.2.1
          rwa [List.take_length] at this
        have HG2 : Hid (w.grownBy wz (some g)) := grown_trans HG.out hrow.2
        have hin : (i : Int) ≤ (m.length : Int) := by omega
        have hne1 : ¬ cap = i := by omega
        clear hwz hrow hh hsz hfit hzc hzl
        go_wp2_with fail
        go_ret
        exact ⟨_, _, _, rfl, HIL, HO.out, HG2.out⟩

set_option maxHeartbeats 2000000 in
set_option maxRecDepth 100000 in
theorem between_any (l : List En) (a : Option Addr) (c : Nat) (kk : Int) (fa : Option Addr) (fn fc : Nat) (f t : ByteArray) (w : World) (hv : EntsR w (.slice a l.length c) l) (hl : l.length ≤ 4398046511104) :
    Calls Try.prog 15 #[.agg #[.slice a l.length c, .int .i64 kk, .slice fa fn fc], .string f, .string t] w fun e w' => ∃ ea en ec, e = .returned (.tuple #[.slice ea en ec, .int .i64 (betP l f t).2]) ∧ Hid (en = (betP l f t).1.length) ∧ Hid (OwnR w' w.heap.size 39 4 (.slice ea en ec) ((betP l f t).1.map enRow)) ∧ Hid (Below w.heap.size w w') := by
  have HV : Hid (EntsR w (.slice a l.length c) l) := hv
  have HLL : Hid (l.length ≤ 4398046511104) := hl
  obtain ⟨w0, hw0⟩ : ∃ w0, w0 = ((w.alloc (.cells #[.slice a l.length c, .int .i64 kk, .slice fa fn fc] 32)).alloc (.cells #[.string f] 9)).alloc (.cells #[.string t] 9) := ⟨_, rfl⟩
  have HW0 : Hid (((w.alloc (.cells #[.slice a l.length c, .int .i64 kk, .slice fa fn fc] 32)).alloc (.cells #[.string f] 9)).alloc (.cells #[.string t] 9) = w0) := hw0.symm
  have B0 : Hid (w0.heap[w.heap.size]? = some (.cells #[.slice a l.length c, .int .i64 kk, .slice fa fn fc] 32)) := by rw [hw0]; exact blk_al (blk_al (blk_nw _ _ rfl) _) _
  have B1 : Hid (w0.heap[w.heap.size + 1]? = some (.cells #[.string f] 9)) := by rw [hw0]; exact blk_al (blk_nw _ _ (by simp)) _
  have B2 : Hid (w0.heap[w.heap.size + 1 + 1]? = some (.cells #[.string t] 9)) := by rw [hw0]; exact blk_nw _ _ (by simp)
  have U0 : Hid (Below w.heap.size w w0) := by rw [hw0]; exact up_al (up_al (up_alloc _ _) _) _
  have HIO := hid (inOrder_any l a c w0 (hv.up U0.out))
  clear hv hl hw0
  generalize hn : l.length = n at *
  have HN : Hid (n = l.length) := hn.symm
  clear hn
  have q0 := blk_cell B0.out 0 _ rfl
  go_enter Try.func15, Try.ntmps15
  go_upto_region 1 with fail
  rw [HW0.out]
  go_wp2_with fail
  refine HIO.out.mono ?_
  rintro e w1 ⟨rfl, b1⟩
  have U1 := hid (up_trans U0.out b1)
  by_cases ha : ascT none l = true
  · rw [ha]
    have HBP : Hid (betP l f t = (l.filter (inB f t), 0)) := by unfold Hid betP; rw [if_pos ha]
    have k0 := blk_cell (blk_up B0.out b1) 0 _ rfl
    have S1 : Hid (w.heap.size + 1 + 1 < w1.heap.size) := blk_lt (blk_up B2.out b1)
    have c1 := blk_cell (blk_up B1.out b1) 0 _ rfl
    have c2 := blk_cell (blk_up B2.out b1) 0 _ rfl
    have HC := hid (show w1.cell? ⟨w.heap.size + 1, 0, none⟩ = some (.string f) ∧ w1.cell? ⟨w.heap.size + 1 + 1, 0, none⟩ = some (.string t) from ⟨c1, c2⟩)
    have HV1 : Hid (EntsR w1 (.slice a n c) l) := HV.out.up U1.out
    have HA4 : Hid ((0 + (l.map enRow).length + (0 + (l.map enRow).length) / 4 + 192) * 48 ≤ 281474976710656 ∧ 0 + (l.map enRow).length ≤ maxLen) := by
      have := HLL.out
      have := HN.out
      unfold Hid maxLen
      simp only [List.length_map]
      omega
    clear b1 ha c1 c2 q0
    go_wp2_with (at_builtin; refine wpList_append_rows w1 rfl _ _ 22 39 _ 4 48 rfl Try.underlying22 Try.info39 rfl (by decide) w1.heap.size (.slice none 0 0) [] rfl (OwnR.nil _ _ _ _) (.slice a n c) (l.map enRow) rfl HV1.out (rows_oneB l) HA4.out.1 HA4.out.2 (Nat.le_refl _) ?_)
    intro v2 w2 ho hg
    obtain ⟨xa, xn, xc, rfl⟩ := rows_shapeB ho
    have HO2 : Hid (OwnR w2 w1.heap.size 39 4 (.slice xa xn xc) (l.map enRow)) := ho
    have V2 : Hid (Below w1.heap.size w1 w2) := below_grown hg (Nat.le_refl _) (fun k hk => by cases hk)
    have HDE := hid (delete_any l (.slice xa xn xc) f t (w.heap.size + 1) (w.heap.size + 1 + 1) w1.heap.size w2 HO2.out (by have := HLL.out; have := HN.out; omega) ((V2.out.cell (World.block_lt_of_cell? _ _ HC.out.1)).trans HC.out.1) ((V2.out.cell (World.block_lt_of_cell? _ _ HC.out.2)).trans HC.out.2) (by have := S1.out; omega) S1.out)
    clear ho hg k0
    go_wp2_with fail
    refine HDE.out.mono ?_
    rintro e w3 ⟨ea, en, ec, rfl, hen, OE, hg3⟩
    have U3 : Hid (Below w.heap.size w w3) := by
      have u2 := up_trans U1.out V2.out
      refine u2.grown hg3.out u2.size (fun k hk => ?_)
      have := (HO2.out.2.lt k hk).1
      have := S1.out
      omega
    have OE2 : Hid (OwnR w3 w.heap.size 39 4 (.slice ea en ec) ((l.filter (inB f t)).map enRow)) := OE.out.mono (by have := S1.out; omega)
    clear HDE hg3 OE
    go_wp2_with fail
    go_ret2
    rw [HBP.out]
    exact ⟨ea, en, ec, rfl, hen, OE2, U3⟩
  · have haf : ascT none l = false := by simpa using ha
    rw [haf]
    have HBP : Hid (betP l f t = ([], 81)) := by unfold Hid betP; rw [if_neg ha]
    clear ha haf b1 q0
    go_wp2_with fail
    go_ret2
    rw [HBP.out]
    exact ⟨none, 0, 0, rfl, rfl, OwnR.nil _ _ _ _, U1⟩
theorem pgB : PgB where
  between := fun l a c k fa fn fc f t W h hl => between_any l a c k fa fn fc f t W h hl
end Go.Proofs.Ytekoniaobmapdaa
