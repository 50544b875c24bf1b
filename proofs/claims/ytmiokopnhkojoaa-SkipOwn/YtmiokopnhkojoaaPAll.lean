/- The program's All: take, walk. -/
import Derived.Test.YtmiokopnhkojoaaPChk
import Derived.Test.YtmiokopnhkojoaaMGet
import Derived.Test.YtmiokopnhkojoaaLEnts
import Derived.Test.YtmiokopnhkojoaaPCop
namespace Go.Proofs.Ytmiokopnhkojoaa
open Go.RowKit
set_option linter.unusedVariables false
set_option linter.unusedSimpArgs false

theorem Try.info27 : (Try.prog.info? 27).map (fun i => (i.zero, i.size, i.bytes)) = some (some (.agg #[.string ⟨#[]⟩, .int .i64 0, .int .i64 0, .string ⟨#[]⟩]), 4, 48) := by kernel_rfl
/-- The collector's block T holds these versions, in memory of its own. -/
def Coll (w : World) (base T : Nat) (v : Value) (l : List En) : Prop := w.heap[T]? = some (.cells #[v] 76) ∧ OwnR w base 27 4 v (l.map enRow)
theorem Coll.up {w w' : World} {base T : Nat} {v : Value} {l : List En} (h : Coll w base T v l) (hb : Below w.heap.size w w') : Coll w' base T v l := ⟨blk_up h.1 hb, h.2.up hb⟩
theorem enRow_one (y : En) : ∀ cs ∈ [enRow y], ∀ u ∈ cs, u.oneCell' = true := by
  intro cs hcs u hu
  simp at hcs
  subst hcs
  simp [enRow] at hu
  rcases hu with rfl | rfl | rfl | rfl <;> rfl
set_option maxHeartbeats 4000000 in
set_option maxRecDepth 100000 in
theorem take_any (l : List En) (y : En) (a : Option Addr) (c T base : Nat) (w : World) (h : Coll w base T (.slice a l.length c) l) (hl : l.length ≤ 4096) (hbase : base ≤ w.heap.size) :
    Calls Try.prog 37 #[.pointer (some ⟨T, 0, none⟩), enV y] w fun e w' => ∃ a' c', e = .returned (.tuple #[]) ∧ Hid (Coll w' base T (.slice a' (l.length + 1) c') (l ++ [y]) ∧ (∀ B, B ≤ base → B ≤ T → B ≤ w.heap.size → Below B w w') ∧ ∀ (k : Nat) (cs : Array Value) (t : TypeId), k ≠ T → 27 ≠ t → w.heap[k]? = some (.cells cs t) → w'.heap[k]? = some (.cells cs t)) := by
  unfold enV
  obtain ⟨wq, hwq⟩ : ∃ wq, wq = w.alloc (.cells #[.string y.key, .int .i64 y.seq, .int .i64 y.kind, .string y.val] 27) := ⟨_, rfl⟩
  have HWQ : Hid (w.alloc (.cells #[.string y.key, .int .i64 y.seq, .int .i64 y.kind, .string y.val] 27) = wq) := hwq.symm
  have uq : Hid (Below w.heap.size w wq) := by rw [hwq]; exact up_alloc _ _
  have HBQ : Hid (wq.heap[w.heap.size]? = some (.cells #[.string y.key, .int .i64 y.seq, .int .i64 y.kind, .string y.val] 27)) := by rw [hwq]; exact blk_new _ _
  have OQ : Hid (Coll wq base T (.slice a l.length c) l) := h.up uq.out
  have HH : Hid (Coll w base T (.slice a l.length c) l) := h
  clear hwq h
  go_enter Try.func37, Try.ntmps37
  go_upto_region 1 with fail
  rw [HWQ.out]
  clear HWQ
  have r0 : wq.cell? ⟨w.heap.size, 0, none⟩ = some (.string y.key) := blk_cell HBQ.out 0 _ rfl
  have r1 : wq.cell? ⟨w.heap.size, 1, none⟩ = some (.int .i64 y.seq) := blk_cell HBQ.out 1 _ rfl
  have r2 : wq.cell? ⟨w.heap.size, 2, none⟩ = some (.int .i64 y.kind) := blk_cell HBQ.out 2 _ rfl
  have r3 : wq.cell? ⟨w.heap.size, 3, none⟩ = some (.string y.val) := blk_cell HBQ.out 3 _ rfl
  have m0 := fun o => ((up_dr (up_al (Below.refl wq.heap.size wq) o)).cell (World.block_lt_of_cell? _ _ r0)).trans r0
  have m1 := fun o => ((up_dr (up_al (Below.refl wq.heap.size wq) o)).cell (World.block_lt_of_cell? _ _ r1)).trans r1
  have m2 := fun o => ((up_dr (up_al (Below.refl wq.heap.size wq) o)).cell (World.block_lt_of_cell? _ _ r2)).trans r2
  have m3 := fun o => ((up_dr (up_al (Below.refl wq.heap.size wq) o)).cell (World.block_lt_of_cell? _ _ r3)).trans r3
  have tq : wq.cell? ⟨T, 0, none⟩ = some (.slice a l.length c) := blk_cell OQ.out.1 0 _ rfl
  have mt := fun o => ((up_dr (up_al (Below.refl wq.heap.size wq) o)).cell (World.block_lt_of_cell? _ _ tq)).trans tq
  have nT : ¬ T = w.heap.size := by have := blk_lt HH.out.1; omega
  have nT2 : ¬ w.heap.size = T := fun q => nT q.symm
  have HA1 : Hid (∀ (o : Obj), OwnR (wq.alloc o).drew base 27 4 (.slice a l.length c) (l.map enRow)) := fun o => (OQ.out.up (up_dr (up_al (Below.refl _ _) o))).2
  have HA2 : Hid (Rws 4 (wq.alloc (.cells #[.string y.key, .int .i64 y.seq, .int .i64 y.kind, .string y.val] 27)).drew (.slice (some ⟨wq.heap.size, 0, none⟩) 1 1) [enRow y]) := (Rws.made (sz := 4) wq 27 [enRow y] (by simp [enRow]) (by simp [maxLen])).up (up_dr (Below.refl _ _))
  have HA4 : Hid (((l.map enRow).length + [enRow y].length + ((l.map enRow).length + [enRow y].length) / 4 + 192) * 48 ≤ 281474976710656 ∧ (l.map enRow).length + [enRow y].length ≤ maxLen) := by
    unfold Hid maxLen; simp only [List.length_map, List.length_cons, List.length_nil]; omega
  have HA5 : Hid (∀ o, base ≤ (wq.alloc o).drew.heap.size) := fun o => Nat.le_trans hbase (Nat.le_trans uq.out.size (up_dr (up_al (Below.refl wq.heap.size wq) o)).size)
  have HG : Hid (∀ (w6 : World) (o : Obj) (v6 : Value), (wq.alloc o).drew.grownBy w6 (Value.ownBlock (.slice a l.length c)) → OwnR w6 base 27 4 v6 (l.map enRow ++ [enRow y]) → ∃ a6 c6, v6 = .slice a6 (l.length + 1) c6 ∧ w6.cell? ⟨T, 0, none⟩ = some (.slice a l.length c) ∧ w6.frozen? ⟨T, 0, none⟩ = false ∧ w6.cell? ⟨w.heap.size, 0, none⟩ = some (.string y.key) ∧ w6.cell? ⟨w.heap.size, 1, none⟩ = some (.int .i64 y.seq) ∧ w6.cell? ⟨w.heap.size, 2, none⟩ = some (.int .i64 y.kind) ∧ w6.cell? ⟨w.heap.size, 3, none⟩ = some (.string y.val) ∧ Hid (Coll (w6.setCell ⟨T, 0, none⟩ (.slice a6 (l.length + 1) c6)) base T (.slice a6 (l.length + 1) c6) (l ++ [y]) ∧ (∀ B, B ≤ base → B ≤ T → B ≤ w.heap.size → Below B w (w6.setCell ⟨T, 0, none⟩ (.slice a6 (l.length + 1) c6))) ∧ ∀ (k : Nat) (cs : Array Value) (t : TypeId), k ≠ T → 27 ≠ t → w.heap[k]? = some (.cells cs t) → (w6.setCell ⟨T, 0, none⟩ (.slice a6 (l.length + 1) c6)).heap[k]? = some (.cells cs t))) := by
    intro w6 o v6 hg ho6
    obtain ⟨a6, c6, e6, _, _⟩ := (Rws.own ho6).len
    simp only [List.length_append, List.length_map, List.length_cons, List.length_nil] at e6
    subst e6
    have uo := up_dr (up_al (Below.refl wq.heap.size wq) o)
    have O3 := OQ.out.up uo
    have nTb : some T ≠ Value.ownBlock (.slice a l.length c) := by
      rcases own_blk_ne O3.2.2 O3.1 (by decide) with q | q
      · rw [q]; simp
      · exact fun e => q e.symm
    have b1 := blk_grown O3.1 hg nTb
    have hne : some w.heap.size ≠ Value.ownBlock (.slice a l.length c) := by
      intro q
      have := (HH.out.2.2.lt _ q.symm).2
      omega
    have k0 := blk_grown (blk_up HBQ.out uo) hg hne
    have g2 := grown_set w6 ⟨T, 0, none⟩ (.slice a6 (l.length + 1) c6)
    refine ⟨a6, c6, rfl, blk_cell b1 0 _ rfl, blk_frozen b1 0, blk_cell k0 0 _ rfl, blk_cell k0 1 _ rfl, blk_cell k0 2 _ rfl, blk_cell k0 3 _ rfl, ⟨?_, ?_⟩, ?_, ?_⟩
    · have := blk_set b1 0 (.slice a6 (l.length + 1) c6)
      simp only [List.setIfInBounds_toArray, List.set_cons_zero] at this
      exact this
    · rw [List.map_append]
      exact ho6.far g2 (own_blk_ne ho6.2 b1 (by decide))
    · intro B h1 h2 h3
      have u0 : Below B w (wq.alloc o).drew := ⟨(up_trans uq.out uo).os, (up_trans uq.out uo).tape, (up_trans uq.out uo).output, (up_trans uq.out uo).size, fun k hk => (up_trans uq.out uo).block k (by omega)⟩
      refine (u0.grown hg (Nat.le_trans h3 u0.size) (fun k hk => ?_)).grown g2 (Nat.le_trans (Nat.le_trans h3 u0.size) hg.size) (fun k hk => ?_)
      · have := (O3.2.2.lt k hk).1
        omega
      · injection hk with hk
        rw [← hk]
        exact h2
    · intro k cs t hkT ht hk
      have k1 := blk_up (blk_up hk uq.out) uo
      have n2 : some k ≠ Value.ownBlock (.slice a l.length c) := by
        rcases own_blk_ne O3.2.2 k1 ht with q | q
        · rw [q]; simp
        · exact fun e => q e.symm
      exact (Below.heap_setCell _ _ _ k (by simp only; exact hkT)).trans (blk_grown k1 hg n2)
  refine wp_region_held_drew (S := (fun w' => w'.cell? ⟨w.heap.size, 0, none⟩ = some (.string y.key) ∧ w'.cell? ⟨w.heap.size, 1, none⟩ = some (.int .i64 y.seq) ∧ w'.cell? ⟨w.heap.size, 2, none⟩ = some (.int .i64 y.kind) ∧ w'.cell? ⟨w.heap.size, 3, none⟩ = some (.string y.val))) (by kernel_rfl) (by (try dsimp only); first | with_reducible exact ⟨t0, t1, t2, t3⟩ | with_reducible exact ⟨m0 _, m1 _, m2 _, m3 _⟩ | with_reducible exact ⟨r0, r1, r2, r3⟩ | (simp [go_sem, r0, r1, r2, r3]; done) | (simp [go_sem, t0, t1, t2, t3, nT, nT2]; done)) (fun hHeld => ?_)
  refine wpAnyH_take (i := 0) (v := ?_) rfl (by kernel_rfl) (by kernel_rfl) (by kernel_rfl) (fun _ _ _ h => h) (Or.inl ⟨by kernel_rfl, ?_⟩) (by assumption) ?_
  rotate_left
  focus (intro w hSw; (try dsimp only at hSw); go_simp; (try with_reducible rfl); done)
  try simp only [Act.put, List.getElem_toArray, List.getElem_cons_zero, List.getElem_cons_succ, List.setIfInBounds_toArray, List.set_cons_zero, List.set_cons_succ]
  refine wpAnyH_take (i := 1) (v := ?_) rfl (by kernel_rfl) (by kernel_rfl) (by kernel_rfl) (fun _ _ _ h => h) (Or.inl ⟨by kernel_rfl, ?_⟩) (by assumption) ?_
  rotate_left
  focus (intro w hSw; (try dsimp only at hSw); go_simp; (try with_reducible rfl); done)
  try simp only [Act.put, List.getElem_toArray, List.getElem_cons_zero, List.getElem_cons_succ, List.setIfInBounds_toArray, List.set_cons_zero, List.set_cons_succ]
  refine wpAnyH_take (i := 2) (v := ?_) rfl (by kernel_rfl) (by kernel_rfl) (by kernel_rfl) (fun _ _ _ h => h) (Or.inl ⟨by kernel_rfl, ?_⟩) (by assumption) ?_
  rotate_left
  focus (intro w hSw; (try dsimp only at hSw); go_simp; (try with_reducible rfl); done)
  try simp only [Act.put, List.getElem_toArray, List.getElem_cons_zero, List.getElem_cons_succ, List.setIfInBounds_toArray, List.set_cons_zero, List.set_cons_succ]
  refine wpAnyH_take (i := 3) (v := ?_) rfl (by kernel_rfl) (by kernel_rfl) (by kernel_rfl) (fun _ _ _ h => h) (Or.inl ⟨by kernel_rfl, ?_⟩) (by assumption) ?_
  rotate_left
  focus (intro w hSw; (try dsimp only at hSw); go_simp; (try with_reducible rfl); done)
  try simp only [Act.put, List.getElem_toArray, List.getElem_cons_zero, List.getElem_cons_succ, List.setIfInBounds_toArray, List.set_cons_zero, List.set_cons_succ]
  refine wpAnyH_take (i := 5) (v := ?_) rfl (by kernel_rfl) (by kernel_rfl) (by kernel_rfl) (fun _ _ _ h => h) (Or.inl ⟨by kernel_rfl, ?_⟩) (by assumption) ?_
  rotate_left
  focus (intro w hSw; (try dsimp only at hSw); go_simp; (try with_reducible rfl); done)
  try simp only [Act.put, List.getElem_toArray, List.getElem_cons_zero, List.getElem_cons_succ, List.setIfInBounds_toArray, List.set_cons_zero, List.set_cons_succ]
  refine wpAnyH_ready (rs := [4, 6]) (by kernel_rfl) (by simp) ?_
  refine AllReadyH.cons rfl (fun K hK => ?_) (AllReadyH.cons rfl (fun K hK => ?_) AllReadyH.nil)
  · skip
    go_simp
    refine hK.out _ _ (by (try dsimp only); first | with_reducible exact ⟨t0, t1, t2, t3⟩ | with_reducible exact ⟨m0 _, m1 _, m2 _, m3 _⟩ | with_reducible exact ⟨r0, r1, r2, r3⟩ | (simp [go_sem, r0, r1, r2, r3]; done) | (simp [go_sem, t0, t1, t2, t3, nT, nT2]; done)) (fun hHeld => ?_)
    clear hK K
    try simp only [Act.put, List.getElem_toArray, List.getElem_cons_zero, List.getElem_cons_succ, List.setIfInBounds_toArray, List.set_cons_zero, List.set_cons_succ]
    refine wpAnyH_ready (rs := [6]) (by kernel_rfl) (by simp) ?_
    refine AllReadyH.cons rfl (fun K hK => ?_) AllReadyH.nil
    go_simp
    refine hK.out _ _ (by (try dsimp only); first | with_reducible exact ⟨t0, t1, t2, t3⟩ | with_reducible exact ⟨m0 _, m1 _, m2 _, m3 _⟩ | with_reducible exact ⟨r0, r1, r2, r3⟩ | (simp [go_sem, r0, r1, r2, r3]; done) | (simp [go_sem, t0, t1, t2, t3, nT, nT2]; done)) (fun hHeld => ?_)
    clear hK K
    try simp only [Act.put, List.getElem_toArray, List.getElem_cons_zero, List.getElem_cons_succ, List.setIfInBounds_toArray, List.set_cons_zero, List.set_cons_succ]
    refine wpAnyH_ready (rs := [7]) (by kernel_rfl) (by simp) ?_
    refine AllReadyH.cons rfl (fun K hK => ?_) AllReadyH.nil
    refine step_append_rows _ rfl (.tmp 8) (.tmp 10) 41 27 _ 4 48 rfl Try.underlying41 Try.info27 rfl (by decide) base (.slice a l.length c) (l.map enRow) rfl (HA1.out _) _ [enRow y] rfl HA2.out (enRow_one y) HA4.out.1 HA4.out.2 (HA5.out _) ?_
    intro v6 w6 o6 g6
    obtain ⟨a6, c6, rfl, tt, tf, t0, t1, t2, t3, hz⟩ := HG.out _ _ _ g6 o6
    refine hK.out _ _ (by (try dsimp only); first | with_reducible exact ⟨t0, t1, t2, t3⟩ | with_reducible exact ⟨m0 _, m1 _, m2 _, m3 _⟩ | with_reducible exact ⟨r0, r1, r2, r3⟩ | (simp [go_sem, r0, r1, r2, r3]; done) | (simp [go_sem, t0, t1, t2, t3, nT, nT2]; done)) (fun hHeld => ?_)
    clear hK K
    try simp only [Act.put, List.getElem_toArray, List.getElem_cons_zero, List.getElem_cons_succ, List.setIfInBounds_toArray, List.set_cons_zero, List.set_cons_succ]
    refine wpAnyH_take (i := 8) (v := ?_) rfl (by kernel_rfl) (by kernel_rfl) (by kernel_rfl) (fun _ _ _ h => h) (Or.inl ⟨by kernel_rfl, ?_⟩) (by assumption) ?_
    rotate_left
    focus (intro w hSw; (try dsimp only at hSw); go_simp; (try with_reducible rfl); done)
    try simp only [Act.put, List.getElem_toArray, List.getElem_cons_zero, List.getElem_cons_succ, List.setIfInBounds_toArray, List.set_cons_zero, List.set_cons_succ]
    refine wpAnyH_take (i := 9) (v := ?_) rfl (by kernel_rfl) (by kernel_rfl) (by kernel_rfl) (fun _ _ _ h => h) (Or.inl ⟨by kernel_rfl, ?_⟩) (by assumption) ?_
    rotate_left
    focus (intro w hSw; (try dsimp only at hSw); go_simp; (try with_reducible rfl); done)
    try simp only [Act.put, List.getElem_toArray, List.getElem_cons_zero, List.getElem_cons_succ, List.setIfInBounds_toArray, List.set_cons_zero, List.set_cons_succ]
    refine wpAnyH_ready (rs := [10]) (by kernel_rfl) (by simp) ?_
    refine AllReadyH.cons rfl (fun K hK => ?_) AllReadyH.nil
    go_simp
    refine hK.out _ _ (by (try dsimp only); first | with_reducible exact ⟨t0, t1, t2, t3⟩ | with_reducible exact ⟨m0 _, m1 _, m2 _, m3 _⟩ | with_reducible exact ⟨r0, r1, r2, r3⟩ | (simp [go_sem, r0, r1, r2, r3]; done) | (simp [go_sem, t0, t1, t2, t3, nT, nT2]; done)) (fun hHeld => ?_)
    clear hK K
    try simp only [Act.put, List.getElem_toArray, List.getElem_cons_zero, List.getElem_cons_succ, List.setIfInBounds_toArray, List.set_cons_zero, List.set_cons_succ]
    refine wpAnyH_done (by kernel_rfl) ?_ _
    clear t0 t1 t2 t3 tt tf g6 o6 tq r0 r1 r2 r3 m0 m1 m2 m3 mt
    go_end0
    exact ⟨a6, c6, rfl, hz⟩
  · skip
    go_simp
    refine hK.out _ _ (by (try dsimp only); first | with_reducible exact ⟨t0, t1, t2, t3⟩ | with_reducible exact ⟨m0 _, m1 _, m2 _, m3 _⟩ | with_reducible exact ⟨r0, r1, r2, r3⟩ | (simp [go_sem, r0, r1, r2, r3]; done) | (simp [go_sem, t0, t1, t2, t3, nT, nT2]; done)) (fun hHeld => ?_)
    clear hK K
    try simp only [Act.put, List.getElem_toArray, List.getElem_cons_zero, List.getElem_cons_succ, List.setIfInBounds_toArray, List.set_cons_zero, List.set_cons_succ]
    refine wpAnyH_ready (rs := [4]) (by kernel_rfl) (by simp) ?_
    refine AllReadyH.cons rfl (fun K hK => ?_) AllReadyH.nil
    go_simp
    refine hK.out _ _ (by (try dsimp only); first | with_reducible exact ⟨t0, t1, t2, t3⟩ | with_reducible exact ⟨m0 _, m1 _, m2 _, m3 _⟩ | with_reducible exact ⟨r0, r1, r2, r3⟩ | (simp [go_sem, r0, r1, r2, r3]; done) | (simp [go_sem, t0, t1, t2, t3, nT, nT2]; done)) (fun hHeld => ?_)
    clear hK K
    try simp only [Act.put, List.getElem_toArray, List.getElem_cons_zero, List.getElem_cons_succ, List.setIfInBounds_toArray, List.set_cons_zero, List.set_cons_succ]
    refine wpAnyH_ready (rs := [7]) (by kernel_rfl) (by simp) ?_
    refine AllReadyH.cons rfl (fun K hK => ?_) AllReadyH.nil
    refine step_append_rows _ rfl (.tmp 8) (.tmp 10) 41 27 _ 4 48 rfl Try.underlying41 Try.info27 rfl (by decide) base (.slice a l.length c) (l.map enRow) rfl (HA1.out _) _ [enRow y] rfl HA2.out (enRow_one y) HA4.out.1 HA4.out.2 (HA5.out _) ?_
    intro v6 w6 o6 g6
    obtain ⟨a6, c6, rfl, tt, tf, t0, t1, t2, t3, hz⟩ := HG.out _ _ _ g6 o6
    refine hK.out _ _ (by (try dsimp only); first | with_reducible exact ⟨t0, t1, t2, t3⟩ | with_reducible exact ⟨m0 _, m1 _, m2 _, m3 _⟩ | with_reducible exact ⟨r0, r1, r2, r3⟩ | (simp [go_sem, r0, r1, r2, r3]; done) | (simp [go_sem, t0, t1, t2, t3, nT, nT2]; done)) (fun hHeld => ?_)
    clear hK K
    try simp only [Act.put, List.getElem_toArray, List.getElem_cons_zero, List.getElem_cons_succ, List.setIfInBounds_toArray, List.set_cons_zero, List.set_cons_succ]
    refine wpAnyH_take (i := 8) (v := ?_) rfl (by kernel_rfl) (by kernel_rfl) (by kernel_rfl) (fun _ _ _ h => h) (Or.inl ⟨by kernel_rfl, ?_⟩) (by assumption) ?_
    rotate_left
    focus (intro w hSw; (try dsimp only at hSw); go_simp; (try with_reducible rfl); done)
    try simp only [Act.put, List.getElem_toArray, List.getElem_cons_zero, List.getElem_cons_succ, List.setIfInBounds_toArray, List.set_cons_zero, List.set_cons_succ]
    refine wpAnyH_take (i := 9) (v := ?_) rfl (by kernel_rfl) (by kernel_rfl) (by kernel_rfl) (fun _ _ _ h => h) (Or.inl ⟨by kernel_rfl, ?_⟩) (by assumption) ?_
    rotate_left
    focus (intro w hSw; (try dsimp only at hSw); go_simp; (try with_reducible rfl); done)
    try simp only [Act.put, List.getElem_toArray, List.getElem_cons_zero, List.getElem_cons_succ, List.setIfInBounds_toArray, List.set_cons_zero, List.set_cons_succ]
    refine wpAnyH_ready (rs := [10]) (by kernel_rfl) (by simp) ?_
    refine AllReadyH.cons rfl (fun K hK => ?_) AllReadyH.nil
    go_simp
    refine hK.out _ _ (by (try dsimp only); first | with_reducible exact ⟨t0, t1, t2, t3⟩ | with_reducible exact ⟨m0 _, m1 _, m2 _, m3 _⟩ | with_reducible exact ⟨r0, r1, r2, r3⟩ | (simp [go_sem, r0, r1, r2, r3]; done) | (simp [go_sem, t0, t1, t2, t3, nT, nT2]; done)) (fun hHeld => ?_)
    clear hK K
    try simp only [Act.put, List.getElem_toArray, List.getElem_cons_zero, List.getElem_cons_succ, List.setIfInBounds_toArray, List.set_cons_zero, List.set_cons_succ]
    refine wpAnyH_done (by kernel_rfl) ?_ _
    clear t0 t1 t2 t3 tt tf g6 o6 tq r0 r1 r2 r3 m0 m1 m2 m3 mt
    go_end0
    exact ⟨a6, c6, rfl, hz⟩
end Go.Proofs.Ytmiokopnhkojoaa
