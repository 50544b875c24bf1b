/- Texts of layers 1 to 13, in this order. -/
import Derived.Test.YthiegmhplnbdlaaGreatG31
import Derived.Test.YthiegmhplnbdlaaGreatG30
import Derived.Test.YthiegmhplnbdlaaGreatG29
import Derived.Test.YthiegmhplnbdlaaGreatG33
import Derived.Test.YthiegmhplnbdlaaGreatG10
import Derived.Stop.RegionWithIn

namespace Go.Proofs.YthiegmhplnbdlaaGreat
open Go.RowKit Go.Shelf SumPlain
set_option linter.unusedVariables false
set_option linter.unusedSimpArgs false
set_option maxRecDepth 20000
theorem wide_fn2 (f : FuncId) : Fence.wide.fn f = True := rfl
attribute [local go_sem] Oper.semAt_some wide_fn2
theorem wpListIn_append_rows {F : Fence} {nF : Nat} (w : World) {ops : Array Oper} {rest : List Oper} {o : Oper} {a : Act} {Q : Exit → Act → World → Prop} (hgd : o.guard = none) (s x : Operand) (t e : TypeId) (z : Value) (sz bytes : Nat)
    (ho : o.op = .call { callee := .builtin .append, args := #[s, x], argTypes := #[t, t] }) (ht : Tryz.prog.underlying t = some (.slice e))
    (hinf : (Tryz.prog.info? e).map (fun i => (i.zero, i.size, i.bytes)) = some (some z, sz, bytes)) (hzs : z.cells.size = sz) (hsz0 : 0 < sz)
    (base : Nat) (v : Value) (css0 : List (List Value)) (hs : a.eval s = v) (hown : OwnR w base e sz v css0)
    (vx : Value) (cssx : List (List Value)) (hx : a.eval x = vx) (hR : Rws sz w vx cssx) (hne : cssx ≠ []) (h1 : ∀ cs ∈ cssx, ∀ u ∈ cs, u.oneCell' = true) (hb : (css0.length + cssx.length) * bytes ≤ 140737488355328) (hm : css0.length + cssx.length ≤ maxLen) (hbase : base ≤ w.heap.size)
    (h : ∀ v' w', OwnR w' base e sz v' (css0 ++ cssx) → w.grownBy w' v.ownBlock → wpListIn F nF Tryz.prog ops Q rest (a.put o.dst v') w') : wpListIn F nF Tryz.prog ops Q (o :: rest) a w := by
  obtain ⟨i0, hi, hz0, hz1, hz2⟩ := info_some hinf
  obtain ⟨hxx, ax, cap, rfl, hc1, hc2, hn, h4⟩ := hR
  have hone : ∀ u ∈ cssx.flatten, u.oneCell' = true := by
    intro u hu
    obtain ⟨cs, q1, q2⟩ := List.mem_flatten.1 hu
    exact h1 cs q1 u q2
  obtain ⟨b, off, rfl, hcc⟩ := h4 hne
  refine wpListIn_append_own_at w hgd s x t ho base e i0 z sz bytes ht hi hz0 hz1 hz2 hzs hsz0 v css0.length _ hs hown.2 ⟨b, off, none⟩ cssx.length cap cssx.flatten hx (flat_rows cssx hxx) ?_ hone hm hb hbase ?_
  · intro j u hj
    have hjl : j < cssx.length * sz := by
      have := (List.getElem?_eq_some_iff.1 hj).1
      rw [flat_rows cssx hxx] at this
      exact this
    have hq : j / sz < cssx.length := (Nat.div_lt_iff_lt_mul hsz0).2 hjl
    have hr : j % sz < sz := Nat.mod_lt _ hsz0
    have hcs := List.getElem?_eq_getElem hq
    have hlen := hxx cssx[j / sz] (List.getElem_mem hq)
    have hu := flat_at cssx hxx (j / sz) _ hcs (j % sz) _ (List.getElem?_eq_getElem (by omega))
    have ej : j / sz * sz + j % sz = j := by rw [Nat.mul_comm]; exact Nat.div_add_mod j sz
    rw [ej, hj] at hu
    have := hcc (j / sz) _ hcs (j % sz) u (by rw [hu]; exact List.getElem?_eq_getElem (by omega))
    rw [Nat.add_assoc, ej] at this
    rw [Addr.add_lit]
    exact this
  · intro v' w' q1 q2 _ _
    refine h v' w' ⟨fun cs hcs => ?_, ?_⟩ q2
    · rcases List.mem_append.1 hcs with q | q
      · exact hown.1 cs q
      · exact hxx cs q
    · rw [List.length_append, List.flatten_append]
      exact q1
def rdP : Nat → List Int → List Int → List En → Option (List En)
  | 0, _, _, acc => some acc
  | f + 1, left, rows, acc => match rowP rows with
    | none => some acc
    | some (s, k) => if left.length < s then some acc else if (decB (left.take s)).2 = 0 then rdP f (left.drop s) (rows.drop k) (acc ++ (decB (left.take s)).1) else none
def readT (b : List Int) (p : Nat) : Option (List En) :=
  if b.length < p then none else if (fget (b.drop p)).2.2.2 ≠ 0 then none else rdP ((fget (b.drop p)).2.1.length + 1) (b.take p) (fget (b.drop p)).2.1 []
def RdE (o : Option (List En)) (w : World) (e : Ending) (w' : World) : Prop := ∃ a n c, e = .returned (.tuple #[.slice a n c, .bool o.isSome]) ∧ Hid (n = (o.getD []).length) ∧ Hid (OwnR w' w.heap.size 50 4 (.slice a n c) ((o.getD []).map enRow)) ∧ Hid (Below w.heap.size w w')
theorem rdP_none {f : Nat} {left rows : List Int} {acc : List En} (hf : rows.length < f) (h : rowP rows = none ∨ ∃ s k, rowP rows = some (s, k) ∧ left.length < s) : rdP f left rows acc = some acc := by
  obtain ⟨g, rfl⟩ : ∃ g, f = g + 1 := ⟨f - 1, by omega⟩
  rw [rdP]
  rcases h with h | ⟨s, k, h, h2⟩
  · rw [h]
  · rw [h]; simp only; rw [if_pos h2]
theorem rdP_bad {f : Nat} {left rows : List Int} {acc : List En} {s k : Nat} (hf : rows.length < f) (h : rowP rows = some (s, k)) (hs : s ≤ left.length) (hd : (decB (left.take s)).2 ≠ 0) : rdP f left rows acc = none := by
  obtain ⟨g, rfl⟩ : ∃ g, f = g + 1 := ⟨f - 1, by omega⟩
  rw [rdP, h]
  simp only
  rw [if_neg (by omega), if_neg hd]
theorem rdP_step {f : Nat} {left rows : List Int} {acc : List En} {s k : Nat} (hf : rows.length < f) (h : rowP rows = some (s, k)) (hs : s ≤ left.length) (hk : 1 ≤ k ∧ k ≤ rows.length) (hd : (decB (left.take s)).2 = 0) : ∃ g, (rows.drop k).length < g ∧ rdP f left rows acc = rdP g (left.drop s) (rows.drop k) (acc ++ (decB (left.take s)).1) := by
  obtain ⟨g, rfl⟩ : ∃ g, f = g + 1 := ⟨f - 1, by omega⟩
  refine ⟨g, by rw [List.length_drop]; omega, ?_⟩
  rw [rdP, h]
  simp only
  rw [if_neg (by omega), if_pos hd]
theorem decB_pos {b : List Int} (h : (decB b).2 = 0) : (decB b).1 ≠ [] := by
  intro e
  have q := enc_decB h
  rw [e] at q
  have q2 : (encB []).2 = 0 := congrArg Prod.snd q
  exact absurd q2 (by decide)
theorem results_rd {fn : Func} (h : fn.results = #[.cell 4 42, .cell 5 4]) (tmps : Array Value) (w : World) {N M : Nat} {x y : Value} (ht : tmps.getD 4 undef = .pointer (some ⟨N, 0, none⟩)) (hu : tmps.getD 5 undef = .pointer (some ⟨M, 0, none⟩))
    (hc : w.heap[N]? = some (.cells #[x] 42)) (hd : w.heap[M]? = some (.cells #[y] 4)) : (results fn tmps).run Tryz.prog w = .ok (.tuple #[x, y]) w := by
  have c0 := blk_cell hc 0 x rfl
  have c1 := blk_cell hd 0 y rfl
  have ht' : tmps[4]?.getD undef = .pointer (some ⟨N, 0, none⟩) := by simpa using ht
  have hu' : tmps[5]?.getD undef = .pointer (some ⟨M, 0, none⟩) := by simpa using hu
  simp only [results, h]
  simp [ht', hu', go_sem, c0, c1]
structure RdW (w w1 : World) (M : Nat) (vb vi vl : Value) (acc : List En) (r : Loop) (W : World) : Prop where
  res : W.heap[w.heap.size]? = some (.cells #[.slice none 0 0] 42)
  ok : W.heap[w.heap.size + 1]? = some (.cells #[.bool false] 4)
  lb : W.heap[M + 1]? = some (.cells #[vl] 42)
  b0 : W.heap[M + 2]? = some (.cells #[vb] 25)
  b1 : W.heap[M + 3]? = some (.cells #[vi] 25)
  dfr : W.heap[M + 4]? = some (.deferred (some []))
  loop : W.heap[M + 5]? = some (.loop r)
  ol : OwnR W (M + 6) 50 4 vl (acc.map enRow)
  low : Below w1.heap.size w1 W
  below : Below w.heap.size w W
  hM : w1.heap.size = M
  hN : w.heap.size + 2 ≤ M
theorem OwnR.apart {w w' : World} {base : Nat} {v : Value} {e : TypeId} {sz : Nat} {l : List (List Value)} {r : Option Nat} (h : OwnR w base e sz v l) (hg : w.grownBy w' r) (hr : ∀ k, r = some k → k < base) : OwnR w' base e sz v l := by
  refine h.far hg ?_
  cases e : v.ownBlock with
  | none => exact .inl rfl
  | some g => exact .inr (fun e2 => by have := hr g e2.symm; have := (h.2.lt g e).1; omega)
theorem RdW.hb {w w1 : World} {M : Nat} {vb vi vl : Value} {acc : List En} {r : Loop} {W : World} (H : RdW w w1 M vb vi vl acc r W) : M + 6 ≤ W.heap.size := by
  have := blk_lt H.loop
  omega
theorem RdW.up {w w1 : World} {M : Nat} {vb vi vl : Value} {acc : List En} {r : Loop} {W W' : World} (H : RdW w w1 M vb vi vl acc r W) (h : Below W.heap.size W W') : RdW w w1 M vb vi vl acc r W' :=
  ⟨blk_up H.res h, blk_up H.ok h, blk_up H.lb h, blk_up H.b0 h, blk_up H.b1 h, blk_up H.dfr h, blk_up H.loop h, H.ol.up h, up_trans H.low h, up_trans H.below h, H.hM, H.hN⟩
theorem RdW.put {w w1 : World} {M : Nat} {vb vi vl : Value} {acc : List En} {r : Loop} {W : World} (H : RdW w w1 M vb vi vl acc r W) (r' : Loop) : RdW w w1 M vb vi vl acc r' (W.putObj (M + 5) (.loop r')) := by
  have g := grownBy_putObj' W (M + 5) (.loop r')
  have h1 := H.hN
  have h2 := H.hM
  exact ⟨blk_grown H.res g (by simp; omega), blk_grown H.ok g (by simp; omega), blk_grown H.lb g (by simp), blk_grown H.b0 g (by simp), blk_grown H.b1 g (by simp), blk_grown H.dfr g (by simp), World.putObj_heap_same (blk_lt H.loop), H.ol.apart g (fun k hk => by simp at hk; omega), H.low.grown g H.low.size (fun j hj => by simp at hj; omega), H.below.grown g H.below.size (fun j hj => by simp at hj; omega), H.hM, H.hN⟩
theorem RdW.setL {w w1 : World} {M : Nat} {vb vi vl vl' : Value} {acc acc' : List En} {r : Loop} {W W' : World} (H : RdW w w1 M vb vi vl acc r W) (ho : OwnR W' (M + 6) 50 4 vl' (acc'.map enRow)) (hg : W.grownBy W' vl.ownBlock) :
    W'.heap[M + 1]? = some (.cells #[vl] 42) ∧ RdW w w1 M vb vi vl' acc' r (W'.setCell ⟨M + 1, 0, none⟩ vl') := by
  have h1 := H.hN
  have h2 := H.hM
  have hk : ∀ k, k < M + 6 → some k ≠ vl.ownBlock := fun k hk e => by have := (H.ol.2.lt _ e.symm).1; omega
  have key : ∀ k, k < M + 6 → ∀ o, W.heap[k]? = some o → W'.heap[k]? = some o := fun k h o ho => blk_grown ho hg (hk k h)
  have g2 := grown_set W' ⟨M + 1, 0, none⟩ vl'
  have u1 : Below w.heap.size w W' := H.below.grown hg H.below.size (fun k hk => by have := (H.ol.2.lt k hk).1; omega)
  have u2 : Below w1.heap.size w1 W' := H.low.grown hg H.low.size (fun k hk => by have := (H.ol.2.lt k hk).1; omega)
  exact ⟨key _ (by omega) _ H.lb, blk_grown (key _ (by omega) _ H.res) g2 (by simp; omega), blk_grown (key _ (by omega) _ H.ok) g2 (by simp; omega), blk_set (key _ (by omega) _ H.lb) 0 _, blk_grown (key _ (by omega) _ H.b0) g2 (by simp), blk_grown (key _ (by omega) _ H.b1) g2 (by simp), blk_grown (key _ (by omega) _ H.dfr) g2 (by simp), blk_grown (key _ (by omega) _ H.loop) g2 (by simp), ho.apart g2 (fun k hk => by simp at hk; omega), u2.grown g2 u2.size (fun j hj => by simp at hj; omega), u1.grown g2 u1.size (fun j hj => by simp at hj; omega), H.hM, H.hN⟩
end Go.Proofs.YthiegmhplnbdlaaGreat

namespace Go.Proofs.YthiegmhplnbdlaaGreat
open Go.RowKit Go.Shelf SumPlain
set_option linter.unusedVariables false
set_option linter.unusedSimpArgs false
set_option maxRecDepth 100000
attribute [local go_sem] Oper.semAt_some wide_fn2
structure RdD (w : World) (M : Nat) (r : Loop) (W : World) : Prop where
  res : W.heap[w.heap.size]? = some (.cells #[.slice none 0 0] 42)
  ok : W.heap[w.heap.size + 1]? = some (.cells #[.bool false] 4)
  dfr : W.heap[M + 4]? = some (.deferred (some []))
  loop : W.heap[M + 5]? = some (.loop r)
  below : Below w.heap.size w W
  hN : w.heap.size + 2 ≤ M
theorem RdD.put {w : World} {M : Nat} {r : Loop} {W : World} (H : RdD w M r W) (r' : Loop) : RdD w M r' (W.putObj (M + 5) (.loop r')) := by
  have g := grownBy_putObj' W (M + 5) (.loop r')
  have h1 := H.hN
  exact ⟨blk_grown H.res g (by simp; omega), blk_grown H.ok g (by simp; omega), blk_grown H.dfr g (by simp), World.putObj_heap_same (blk_lt H.loop), H.below.grown g H.below.size (fun j hj => by simp at hj; omega), H.hN⟩
theorem RdW.same {w w1 : World} {M : Nat} {vb vi vl : Value} {acc : List En} {r : Loop} {W : World} (H : RdW w w1 M vb vi vl acc r W) : RdD w M r ((W.setCell ⟨w.heap.size, 0, none⟩ (.slice none 0 0)).setCell ⟨w.heap.size + 1, 0, none⟩ (.bool false)) := by
  have g1 := grown_set W ⟨w.heap.size, 0, none⟩ (.slice none 0 0)
  have g2 := grown_set (W.setCell ⟨w.heap.size, 0, none⟩ (.slice none 0 0)) ⟨w.heap.size + 1, 0, none⟩ (.bool false)
  have h1 := H.hN
  have e0 := blk_set H.res 0 (.slice none 0 0)
  have e1 := blk_set (blk_grown H.ok g1 (by simp)) 0 (.bool false)
  refine ⟨blk_grown e0 g2 (by simp), e1, blk_grown (blk_grown H.dfr g1 (by simp; omega)) g2 (by simp; omega), blk_grown (blk_grown H.loop g1 (by simp; omega)) g2 (by simp; omega), ?_, h1⟩
  have u1 := H.below.grown g1 H.below.size (fun j hj => by simp at hj; omega)
  exact u1.grown g2 u1.size (fun j hj => by simp at hj; omega)
theorem rows_shape {w : World} {base : Nat} {e : TypeId} {sz : Nat} {v : Value} {css : List (List Value)} (h : OwnR w base e sz v css) : ∃ a n c, v = .slice a n c := by
  obtain ⟨a, c, e, _, _⟩ := (Rws.own h).len
  exact ⟨a, _, c, e⟩
theorem rows_one (l : List En) : ∀ cs ∈ l.map enRow, ∀ u ∈ cs, u.oneCell' = true := by
  intro cs hcs u hu
  obtain ⟨x, _, rfl⟩ := List.mem_map.1 hcs
  simp [enRow] at hu
  rcases hu with rfl | rfl | rfl | rfl <;> rfl
theorem fget_small (l : List Int) (hx : ∀ y ∈ l, 0 ≤ y ∧ y ≤ 255) : (fget l).2.1.length ≤ 65536 := by
  obtain ⟨v, j, e, ⟨g1, g2, g3⟩, _⟩ := gep_any l hx
  unfold fget
  rw [g1]
  split
  · simp
  · split
    · simp
    · split
      · simp
      · split
        · simp
        · rename_i h1 h2 h3 h4
          have hb : (bareOf (l.take ((j : Int) + 1 + (v : Int) + 4).toNat)).2 = 0 := by simpa using h4
          have := (bareOf_good (l := l.take ((j : Int) + 1 + (v : Int) + 4).toNat) (x := (bareOf (l.take ((j : Int) + 1 + (v : Int) + 4).toNat)).1) (by rw [← hb])).1
          simp only [List.length_drop, List.length_take] at this ⊢
          simp at h2
          omega
set_option maxHeartbeats 4000000 in
theorem readT_any (b : List Int) (p : Nat) (a : Option Addr) (n c : Nat) (w : World) (hn : n = b.length) (hv : Octs w (.slice a n c) b) (hl : n ≤ 140737488351232) (hp : p < 4294967296) :
    Calls Tryz.prog 41 #[.slice a n c, .int .i64 p] w fun e w' => RdE (readT b p) w e w' := by
  have hnc := octs_cap hn hv
  refine (callsIn_wide (n := 9)).1 ?_
  refine callsIn_of_wp_marks Tryz.func41 rfl trivial ?_ rfl
  simp only [Tryz.ntmps41, List.size_toArray, List.length_cons, List.length_nil, Nat.reduceAdd, Nat.reduceSub, Array.replicate_succ, Array.replicate_zero, List.push_toArray, List.append_toArray, List.nil_append, List.cons_append]
  by_cases hnp : n < p
  · have hnp' : (n : Int) < (p : Int) := by omega
    have HE : Hid (readT b p = none) := by unfold Hid readT; rw [if_pos (by omega)]
    clear hv hn
    gi_wp2_with fail
    refine ⟨_, results_rd rfl _ _ rfl rfl (blk_al (blk_nw _ _ rfl) _) (blk_nw _ _ (by simp)), ?_⟩
    rw [HE.out]
    exact ⟨none, 0, 0, rfl, rfl, OwnR.nil _ _ _ _, up_al (up_alloc _ _) _⟩
  · have hnp' : ¬ (n : Int) < (p : Int) := by omega
    have hpn : (p : Int) ≤ (n : Int) := by omega
    have hpc : (p : Int) ≤ (c : Int) := by omega
    have hncI : (n : Int) ≤ (c : Int) := by omega
    have hpn2 : p ≤ n := by omega
    obtain ⟨A, hA⟩ : ∃ A, (if c = p then a else a.map (fun x => x.add p)) = A := ⟨_, rfl⟩
    have hO1 := octs_fromT hn hv p hpn2 hA
    have hO2 := octs_to hn hv p hpn2
    have HFG : Hid (∀ W : World, Below w.heap.size w W → Calls Tryz.prog 53 #[.slice A (n - p) (c - p)] W fun e w' => ∃ va vn vc, e = .returned (.tuple #[.agg #[.int .i64 (fget (b.drop p)).1, .slice va vn vc], .int .i64 (fget (b.drop p)).2.2.1, .int .i64 (fget (b.drop p)).2.2.2]) ∧ Hid (vn = (fget (b.drop p)).2.1.length ∧ Octs w' (.slice va vn vc) (fget (b.drop p)).2.1) ∧ Hid (Below W.heap.size W w')) := fun W hW => by
      refine (fget_any (b.drop p) _ W (hO1.up hW)).mono ?_
      rintro e w' ⟨vd, rfl, h1, h2⟩
      obtain ⟨va, vn, vc, rfl, hvn⟩ : ∃ va vn vc, vd = .slice va vn vc ∧ vn = (fget (b.drop p)).2.1.length := by
        obtain ⟨_, h⟩ := h1.1
        rcases h with ⟨e, ax, cap, rfl, _⟩ | ⟨hne, b0, off, cap, rfl, _⟩
        · exact ⟨ax, 0, cap, rfl, by rw [e]; rfl⟩
        · exact ⟨_, _, cap, rfl, rfl⟩
      exact ⟨va, vn, vc, rfl, ⟨hvn, h1.1⟩, h2⟩
    have hlen := fget_len (b.drop p)
    have HRT : Hid (readT b p = if (fget (b.drop p)).2.2.2 ≠ 0 then none else rdP ((fget (b.drop p)).2.1.length + 1) (b.take p) (fget (b.drop p)).2.1 []) := by unfold Hid readT; rw [if_neg (by omega)]
    rw [List.length_drop] at hlen
    have HO2 := hid hO2
    have HIL : Hid ((fget (b.drop p)).2.1.length ≤ n) := by unfold Hid; omega
    have HIS : Hid ((fget (b.drop p)).2.1.length ≤ 65536) := fget_small _ (fun y hy => hv.1 y (List.mem_of_mem_drop hy))
    have HTP : Hid (p = (b.take p).length) := by unfold Hid; rw [List.length_take]; omega
    generalize fget (b.drop p) = FG at *
    obtain ⟨kk, I, k2, ee⟩ := FG
    simp only at HFG HRT HIL HIS
    clear hv hn hO1 hO2 hlen
    gi_wp2_with fail
    refine (callsIn_wide.2 (HFG.out _ (up_al (up_alloc _ _) _))).mono ?_
    rintro e w1 ⟨va, vn, vc, rfl, DV, b1⟩
    obtain ⟨wA, hwA⟩ : ∃ wA, wA = (w.alloc (.cells #[.slice none 0 0] 42)).alloc (.cells #[.bool false] 4) := ⟨_, rfl⟩
    rw [← hwA] at b1
    have r0 : w1.heap[w.heap.size]? = some (.cells #[.slice none 0 0] 42) := blk_up (by rw [hwA]; exact blk_al (blk_nw _ _ rfl) _) b1.out
    have r1 : w1.heap[w.heap.size + 1]? = some (.cells #[.bool false] 4) := blk_up (by rw [hwA]; exact blk_nw _ _ (by simp)) b1.out
    have U1 : Below w.heap.size w w1 := up_trans (by rw [hwA]; exact up_al (up_alloc _ _) _) b1.out
    have hs2 : w.heap.size + 2 ≤ w1.heap.size := by have := blk_lt r1; omega
    clear hwA b1
    by_cases hee : ee = 0
    · subst hee
      have HRT2 : Hid (readT b p = rdP (I.length + 1) (b.take p) I []) := by unfold Hid; rw [HRT.out]; simp
      clear HRT HFG
      gi_wp2_with fail
      have HUX := hid U1
      obtain ⟨w2, hw2⟩ : ∃ w2, w2 = (w1.alloc (.cells #[.int .i64 kk, .slice va vn vc] 80)).alloc (.cells #[.slice none 0 0] 42) := ⟨_, rfl⟩
      rw [← hw2]
      have d2 : w2.heap.size = w1.heap.size + 2 := by rw [hw2]; simp
      have m0 : w2.heap[w1.heap.size]? = some (.cells #[.int .i64 kk, .slice va vn vc] 80) := by rw [hw2]; exact blk_al (blk_nw _ _ rfl) _
      have m1 : w2.heap[w1.heap.size + 1]? = some (.cells #[.slice none 0 0] 42) := by rw [hw2]; exact blk_nw _ _ (by simp)
      have V2 : Below w1.heap.size w1 w2 := by rw [hw2]; exact up_al (up_alloc _ _) _
      have HBK := hid (fun w => blocks_any a p c va vn vc w)
      have x1 : w2.drew.cell? ⟨w1.heap.size, 1, none⟩ = some (.slice va vn vc) := blk_cell m0 1 _ rfl
      have x1' : w2.cell? ⟨w1.heap.size, 1, none⟩ = some (.slice va vn vc) := blk_cell m0 1 _ rfl
      have V2d : Below w1.heap.size w1 w2.drew := up_trans V2 ⟨rfl, rfl, rfl, Nat.le_refl _, fun _ _ => rfl⟩
      have m1d : w2.drew.heap[w1.heap.size + 1]? = some (.cells #[.slice none 0 0] 42) := m1
      have d2d : w2.drew.heap.size = w1.heap.size + 2 := d2
      clear hw2
      refine wpIn_then ?_
      gi_region_with ((gi_at_call 73; refine (callsIn_wide.2 (HBK.out _)).mono ?_; rintro e w3 ⟨rfl, rfl⟩))
      clear x1 x1' HBK
      gi_wp2_with fail
      obtain ⟨w3, hw3⟩ : ∃ w3 : World, w3 = ((w2.alloc (.cells #[.slice a p c] 25)).alloc (.cells #[.slice va vn vc] 25)).drew := ⟨_, rfl⟩
      obtain ⟨M, hM⟩ : ∃ M, w1.heap.size = M := ⟨_, rfl⟩
      rw [hM] at m0 m1 m1d d2 d2d V2 V2d hs2 ⊢
      have d3 : w3.heap.size = M + 4 := by rw [hw3]; show ((w2.alloc (.cells #[.slice a p c] 25)).alloc (.cells #[.slice va vn vc] 25)).heap.size = _; simp; omega
      have c1 : w3.heap[M + 1]? = some (.cells #[.slice none 0 0] 42) := by rw [hw3]; exact blk_al (blk_al m1 _) _
      have c2 : w3.heap[M + 2]? = some (.cells #[.slice a p c] 25) := by rw [hw3]; exact blk_al (blk_nw _ _ d2) _
      have c3 : w3.heap[M + 3]? = some (.cells #[.slice va vn vc] 25) := by rw [hw3]; exact blk_nw _ _ (by simp; omega)
      have V2e : Below w1.heap.size w1 w2 := by rw [hM]; exact V2
      have V2a := up_al (up_al V2e (.cells #[.slice a p c] 25)) (.cells #[.slice va vn vc] 25)
      have V3 : Below w1.heap.size w1 w3 := by rw [hw3]; exact up_trans V2a (show Below ((w2.alloc (.cells #[.slice a p c] 25)).alloc (.cells #[.slice va vn vc] 25)).heap.size ((w2.alloc (.cells #[.slice a p c] 25)).alloc (.cells #[.slice va vn vc] 25)) ((w2.alloc (.cells #[.slice a p c] 25)).alloc (.cells #[.slice va vn vc] 25)).drew from ⟨rfl, rfl, rfl, Nat.le_refl _, fun _ _ => rfl⟩)
      have hp23 : (w2.drew.heap.size) = M + 2 := d2d
      rw [← hw3]
      simp only [d2] at *
      clear hw3
      refine range_law rfl (enters_of Tryz.func92 (by kernel_rfl) rfl) ?_
      intro r r1' r2' r3' r4' r5' r6'
      rw [d3]
      have J0 : RdW w w1 M (.slice a p c) (.slice va vn vc) (.slice none 0 0) [] r ((w3.alloc (.deferred (some []))).alloc (.loop r)) := by
        refine ⟨blk_al (blk_al (blk_up r0 V3) _) _, blk_al (blk_al (blk_up r1 V3) _) _, blk_al (blk_al c1 _) _, blk_al (blk_al c2 _) _, blk_al (blk_al c3 _) _, blk_al (blk_nw _ _ d3) _, blk_nw _ _ (by simp; omega), OwnR.nil _ _ _ _, up_al (up_al V3 _) _, up_trans U1 (up_al (up_al V3 _) _), hM, by omega⟩
      generalize (w3.alloc (.deferred (some []))).alloc (.loop r) = W1 at *
      have h0 : BkI w1 (b.take p) I a p c va vn vc := ⟨HTP.out, HO2.out.up U1, by omega, DV.out.1, DV.out.2, by have := DV.out.1; have := HIS.out; omega⟩
      obtain ⟨rd, hrd⟩ : ∃ rd : Loop, rd = { r with state := .done, pending := some .ret } := ⟨_, rfl⟩
      have rd1 : rd.state = .done := by rw [hrd]
      have rd2 : rd.pending = some .ret := by rw [hrd]
      have HRD : Hid (rd = { r with state := .done, pending := some .ret }) := hrd
      have HM : Hid (w1.heap.size = M) := hM
      clear hrd c1 c2 c3 V3 V2 V2e V2a V2d m0 m1 m1d d2 d2d d3 hp23 r0 r1 hM
      refine (blk_in 8 (M + 4 + 1) (M + 2) w1 (b.take p) I a p c va vn vc h0
        (fun left rows W => left.length ≤ 4294967296 ∧ rows.length ≤ I.length ∧ (∀ y ∈ rows, 0 ≤ y ∧ y ≤ 255) ∧ ∃ acc la ln lc, RdW w w1 M (.slice a p c) (.slice va vn vc) (.slice la ln lc) acc r W ∧ (∃ f, rows.length < f ∧ rdP f left rows acc = readT b p) ∧ acc.length ≤ 64 * (I.length - rows.length))
        (fun W => readT b p = none ∧ RdD w M rd W) W1 ?hY ?hK ?hU ⟨by rw [← HTP.out]; omega, Nat.le_refl _, DV.out.2.1, [], none, 0, 0, J0, ⟨I.length + 1, by omega, HRT2.out.symm⟩, by simp⟩).mono ?post
      case hK =>
        rintro left rows W' ⟨_, _, _, acc, la, ln, lc, H, _, _⟩
        exact ⟨H.low, blk_cell H.b0 0 _ rfl, blk_cell H.b1 0 _ rfl⟩
      case hU =>
        rintro left rows W1 W2 ⟨h1, h2, h3, acc, la, ln, lc, H, h5, h6⟩ hb
        exact ⟨h1, h2, h3, acc, la, ln, lc, H.up hb, h5, h6⟩
      case post =>
        rintro e W' ⟨hv, hor⟩
        refine ⟨hv, ?_⟩
        rcases hor with ⟨left, rows, ⟨_, _, _, acc, la, ln, lc, H, ⟨f, hf, hrd⟩, _⟩, hend⟩ | ⟨hnone, H⟩
        · refine ⟨r, H.loop, (by rw [r1']; simp), .inl ⟨r2', ?_⟩⟩
          have HRES : Hid (readT b p = some acc) := by unfold Hid; rw [← hrd]; exact rdP_none hf hend
          have H2 : RdW w w1 M (.slice a p c) (.slice va vn vc) (.slice la ln lc) acc { r with state := .exhausted } (W'.putObj (M + 4 + 1) (.loop { r with state := .exhausted })) := H.put { r with state := .exhausted }
          have HH := hid H2
          generalize W'.putObj (M + 4 + 1) (.loop { r with state := .exhausted }) = W2 at *
          have q1 := blk_cell HH.out.lb 0 _ rfl
          have q2 := blk_cell HH.out.res 0 _ rfl
          have q3 := blk_frozen HH.out.res 0
          have q4 := blk_cell HH.out.ok 0 _ rfl
          have q5 := blk_frozen HH.out.ok 0
          clear H H2 J0 h0 r1' r2' r3' r4' r5' r6' rd1 rd2 hrd hf hend
          gi_wp2_with fail
          have g1 := grown_set W2 ⟨w.heap.size, 0, none⟩ (.slice la ln lc)
          have g2 := grown_set (W2.setCell ⟨w.heap.size, 0, none⟩ (.slice la ln lc)) ⟨w.heap.size + 1, 0, none⟩ (.bool true)
          have hN := HH.out.hN
          have hdf := blk_grown (blk_grown HH.out.dfr g1 (by simp; omega)) g2 (by simp; omega)
          have z0 := blk_grown (blk_set HH.out.res 0 (.slice la ln lc)) g2 (by simp)
          have z1 := blk_set (blk_grown HH.out.ok g1 (by simp)) 0 (.bool true)
          have z2 := (HH.out.ol.apart g1 (fun k hk => by simp at hk; omega)).apart g2 (fun k hk => by simp at hk; omega)
          have u1 := HH.out.below.grown g1 HH.out.below.size (fun j hj => by simp at hj; omega)
          have u2 := u1.grown g2 u1.size (fun j hj => by simp at hj; omega)
          generalize (W2.setCell ⟨w.heap.size, 0, none⟩ (.slice la ln lc)).setCell ⟨w.heap.size + 1, 0, none⟩ (.bool true) = W3 at *
          refine ⟨by simp, .inl ⟨_, _, rfl, run_takeDeferred (ds := []) hdf, ?_⟩⟩
          have g3 := grownBy_putObj' W3 (M + 4) (.deferred none)
          refine ⟨_, results_rd (x := .slice la ln lc) (y := .bool true) rfl _ _ rfl rfl (blk_grown z0 g3 (by simp; omega)) (blk_grown z1 g3 (by simp; omega)), ?_⟩
          rw [HRES.out]
          refine ⟨la, ln, lc, rfl, ?_, OwnR.mono (z2.apart g3 (fun k hk => by simp at hk; omega)) (by omega), u2.grown g3 u2.size (fun j hj => by simp at hj; omega)⟩
          obtain ⟨_, _, e6, _, _⟩ := (Rws.own z2).len
          simp only [Value.slice.injEq, List.length_map] at e6
          exact e6.2.1
        · refine ⟨rd, H.loop, by rw [rd1]; simp, .inr ⟨rd2, ?_⟩⟩
          have H2 : RdD w M { rd with state := .exhausted } (W'.putObj (M + 4 + 1) (.loop { rd with state := .exhausted })) := H.put { rd with state := .exhausted }
          have hN := H.hN
          generalize W'.putObj (M + 4 + 1) (.loop { rd with state := .exhausted }) = W2 at *
          refine ⟨by simp, .inl ⟨_, _, rfl, run_takeDeferred (ds := []) H2.dfr, ?_⟩⟩
          have g3 := grownBy_putObj' W2 (M + 4) (.deferred none)
          refine ⟨_, results_rd (x := .slice none 0 0) (y := .bool false) rfl _ _ rfl rfl (blk_grown H2.res g3 (by simp; omega)) (blk_grown H2.ok g3 (by simp; omega)), ?_⟩
          rw [hnone]
          exact ⟨none, 0, 0, rfl, rfl, OwnR.nil _ _ _ _, H2.below.grown g3 H2.below.size (fun j hj => by simp at hj; omega)⟩
      case hY =>
        rintro left rows s k vva vvc W0 hrow hsl hoc ⟨h1, h2, h3, acc, la, ln, lc, H, ⟨f, hf, hrdp⟩, h6⟩
        obtain ⟨hk1, hk2, _⟩ := rowP_le h3 hrow
        have htl : (left.take s).length = s := by rw [List.length_take]; omega
        have HDE : Hid (∀ W : World, Below w1.heap.size w1 W → Calls Tryz.prog 74 #[.slice vva s vvc] W fun e w' => ∃ a n c, e = .returned (.tuple #[.slice a n c, .int .i64 (decB (left.take s)).2]) ∧ Hid (n = (decB (left.take s)).1.length) ∧ Hid (OwnR w' W.heap.size 50 4 (.slice a n c) ((decB (left.take s)).1.map enRow)) ∧ Hid (Below W.heap.size W w')) := fun W hW => decode_any (left.take s) _ W (hoc.up hW) (by rw [htl]; omega)
        have hDL := decB_len (left.take s)
        have HBAD : Hid ((decB (left.take s)).2 ≠ 0 → readT b p = none) := fun h => by rw [← hrdp]; exact rdP_bad hf hrow hsl h
        have HGO : Hid ((decB (left.take s)).2 = 0 → (∃ g, (rows.drop k).length < g ∧ rdP g (left.drop s) (rows.drop k) (acc ++ (decB (left.take s)).1) = readT b p) ∧ (decB (left.take s)).1 ≠ []) := fun h => by
          obtain ⟨g, q1, q2⟩ := rdP_step (acc := acc) hf hrow hsl ⟨hk1, hk2⟩ h
          exact ⟨⟨g, q1, by rw [← q2]; exact hrdp⟩, decB_pos h⟩
        have HREST : Hid ((left.drop s).length ≤ 4294967296 ∧ (rows.drop k).length ≤ I.length ∧ (∀ y ∈ rows.drop k, 0 ≤ y ∧ y ≤ 255) ∧ acc.length + 64 ≤ 64 * (I.length - (rows.drop k).length)) := by
          refine ⟨by rw [List.length_drop]; omega, by rw [List.length_drop]; omega, fun y hy => h3 y (List.mem_of_mem_drop hy), ?_⟩
          rw [List.length_drop]
          omega
        have HAL : Hid (acc.length ≤ 4194304) := by have := HIS.out; unfold Hid; omega
        clear hrow hsl hoc h1 h2 h3 hf hrdp h6 hk1 hk2 htl
        generalize hDD : decB (left.take s) = DD at *
        obtain ⟨DL, de⟩ := DD
        clear hDD
        simp only at HDE hDL HBAD HGO
        refine ⟨r.fn, _, r.assign, r.body, run_yield H.loop (by rw [r4']; rfl), roundIn_of_wpIn trivial ?_⟩
        rw [r3', r4', r5', r6']
        gi_wp2_with fail
        refine ⟨_, run_beginRound H.loop r1', ?_⟩
        have H2 : RdW w w1 M (.slice a p c) (.slice va vn vc) (.slice la ln lc) acc { r with state := .busy } (W0.putObj (M + 4 + 1) (.loop { r with state := .busy })) := H.put { r with state := .busy }
        have HR : Hid (r.state = .ready ∧ r.pending = none) := ⟨r1', r2'⟩
        generalize W0.putObj (M + 4 + 1) (.loop { r with state := .busy }) = Wb at *
        have HB := hid H2
        clear H H2 J0 h0 r1' r2' r3' r4' r5' r6' rd1 rd2
        gi_wp2_with fail
        refine (CallsIn.inRound _ (callsIn_wide.2 (HDE.out _ HB.out.low))).mono ?_
        rintro e W4 ⟨xa, xn, xc, rfl, hxn, XO, b4⟩
        have HB4 := hid (HB.out.up b4.out)
        clear HDE HB b4
        by_cases hde : de = 0
        · subst hde
          obtain ⟨hgo, hne⟩ := HGO.out rfl
          have HGO2 := hid hgo
          have HR4 := hid (Rws.own XO.out)
          have HNE : Hid (DL.map enRow ≠ []) := by simpa [Hid] using hne
          have HZ : Hid (((acc.map enRow).length + (DL.map enRow).length) * 48 ≤ 140737488355328 ∧ (acc.map enRow).length + (DL.map enRow).length ≤ maxLen) := by
            have := HAL.out
            unfold Hid maxLen
            simp only [List.length_map]
            omega
          have q1 := blk_cell HB4.out.lb 0 _ rfl
          clear hgo hne HGO HBAD XO
          gi_wp2_with (gi_at_builtin; refine wpListIn_append_rows W4 rfl _ _ 42 50 _ 4 48 rfl Tryz.underlying42 Tryz.info50 rfl (by decide) (M + 6) (.slice la ln lc) (acc.map enRow) rfl HB4.out.ol (.slice xa xn xc) (DL.map enRow) rfl HR4.out HNE.out (rows_one DL) HZ.out.1 HZ.out.2 HB4.out.hb ?_)
          intro v5 W5 ho hg
          obtain ⟨ba5, bn5, bc5, rfl⟩ := rows_shape ho
          rw [← List.map_append] at ho
          obtain ⟨k1, H6⟩ := HB4.out.setL (acc' := acc ++ DL) ho hg
          have p1 := blk_cell k1 0 _ rfl
          have p2 := blk_frozen k1 0
          have HB6 := hid H6
          clear ho hg k1 H6 HB4 q1 HR4
          gi_wp2_with fail
          have hend := run_endRound (P := Tryz.prog) none HB6.out.loop
          have hrr2 : ({ ({ r with state := .busy } : Loop) with state := if (none : Option Code).isNone then LoopState.ready else LoopState.done, pending := none } : Loop) = r := by
            obtain ⟨r1, r2⟩ := HR.out
            cases r
            simp at r1 r2
            subst r1 r2
            rfl
          rw [hrr2] at hend
          obtain ⟨e1, e2, e3, e4⟩ := HREST.out
          refine ⟨_, _, hend, .inl ⟨rfl, by first | exact e1 | (simp only [List.length_drop] at e1; omega), by first | exact e2 | (simp only [List.length_drop] at e2; omega), e3, acc ++ DL, ⟨_, _, _, HB6.out.put r⟩, by simpa using HGO2.out, ?_⟩⟩
          simp only [List.length_append, List.length_drop] at *
          omega
        · have hq1 : (de == 0) = false := by simp [hde]
          have hq2 : (de != 0) = true := by simp [hde]
          have HNO := hid (HBAD.out hde)
          have y0 := blk_cell HB4.out.res 0 _ rfl
          have y1 := blk_frozen HB4.out.res 0
          have y2 := blk_cell HB4.out.ok 0 _ rfl
          have y3 := blk_frozen HB4.out.ok 0
          clear HGO HBAD XO
          gi_wp2_with fail
          have HB5 := hid (HB4.out.same)
          have hend := run_endRound (P := Tryz.prog) (some .ret) HB5.out.loop
          have hrr2 : ({ ({ r with state := .busy } : Loop) with state := if (some Code.ret).isNone then LoopState.ready else LoopState.done, pending := some .ret } : Loop) = rd := by
            rw [HRD.out]
            rfl
          rw [hrr2] at hend
          exact ⟨_, _, hend, .inr ⟨rfl, HNO.out, HB5.out.put rd⟩⟩
    · have HE : Hid (readT b p = none) := by unfold Hid; rw [HRT.out, if_pos (by simpa using hee)]
      have hq1 : (ee == 0) = false := by simp [hee]
      have hq2 : (ee != 0) = true := by simp [hee]
      have HX := hid (show w1.heap[w.heap.size]? = some (.cells #[.slice none 0 0] 42) ∧ w1.heap[w.heap.size + 1]? = some (.cells #[.bool false] 4) ∧ Below w.heap.size w w1 from ⟨r0, r1, U1⟩)
      have y0 : ∀ o, (w1.alloc o).cell? ⟨w.heap.size, 0, none⟩ = some (.slice none 0 0) := fun o => blk_cell (blk_al r0 o) 0 _ rfl
      have y1 : ∀ o, (w1.alloc o).cell? ⟨w.heap.size + 1, 0, none⟩ = some (.bool false) := fun o => blk_cell (blk_al r1 o) 0 _ rfl
      have f0 : ∀ o, (w1.alloc o).frozen? ⟨w.heap.size, 0, none⟩ = false := fun o => blk_frozen (blk_al r0 o) 0
      have f1 : ∀ o, (w1.alloc o).frozen? ⟨w.heap.size + 1, 0, none⟩ = false := fun o => blk_frozen (blk_al r1 o) 0
      clear HRT HFG
      gi_wp2_with fail
      obtain ⟨z0, z1, z2⟩ := HX.out
      refine ⟨_, results_rd (x := .slice none 0 0) (y := .bool false) rfl _ _ rfl rfl ?cc ?dd, ?_⟩
      case cc => exact blk_grown (blk_set (blk_al z0 _) 0 _) (grown_set _ _ _) (by simp)
      case dd => exact blk_set (blk_grown (blk_al z1 _) (grown_set _ _ _) (by simp)) 0 _
      rw [HE.out]
      refine ⟨none, 0, 0, rfl, rfl, OwnR.nil _ _ _ _, ?_⟩
      have u1 := up_al z2 (.cells #[.int .i64 kk, .slice va vn vc] 80)
      have u2 := u1.grown (grown_set _ ⟨w.heap.size, 0, none⟩ (.slice none 0 0)) u1.size (fun j hj => by simp at hj; omega)
      exact u2.grown (grown_set _ ⟨w.heap.size + 1, 0, none⟩ (.bool false)) u2.size (fun j hj => by simp at hj; omega)
end Go.Proofs.YthiegmhplnbdlaaGreat
