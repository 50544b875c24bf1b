/- Texts of layers 1 to 13, in this order. -/
import Derived.Test.YthiegmhplnbdlaaGreatBHas
import Derived.Test.YthiegmhplnbdlaaGreatG21
import Derived.Test.YthiegmhplnbdlaaGreatG35
import Derived.Test.YthiegmhplnbdlaaGreatG12
import Derived.Test.YthiegmhplnbdlaaGreatG30
import Derived.Test.YthiegmhplnbdlaaGreatG22
import Derived.Maps.OwnIn
import Derived.OrdersIn
import Derived.Stop.RegionWithIn

namespace Go.Proofs.YthiegmhplnbdlaaGreat
open Go.RowKit
set_option linter.unusedVariables false
set_option linter.unusedSimpArgs false
theorem results_stp {fn : Func} (h : fn.results = #[.cell 2 162]) (tmps : Array Value) (w : World) {N : Nat} {x y : Value} (ht : tmps.getD 2 undef = .pointer (some ⟨N, 0, none⟩)) (hc : w.heap[N]? = some (.cells #[x, y] 162)) : (results fn tmps).run Tryz.prog w = .ok (.agg #[x, y]) w := by
  have c0 := blk_cell hc 0 x rfl
  have c1 := blk_cell hc 1 y rfl
  have ht' : tmps[2]?.getD undef = .pointer (some ⟨N, 0, none⟩) := by simpa using ht
  simp only [results, h]
  simp [ht', go_sem, c0, c1]
set_option maxRecDepth 100000 in
theorem stampOf_any (x : En) (w : World) : Calls Tryz.prog 86 #[.agg #[.string x.key, .int .i64 x.seq, .int .i64 x.kind, .string x.val]] w fun e w' => e = .returned (.agg #[.string x.key, .int .i64 x.seq]) ∧ w' = (w.alloc (.cells #[.string x.key, .int .i64 x.seq, .int .i64 x.kind, .string x.val] 50)).alloc (.cells #[.string x.key, .int .i64 x.seq] 162) := by
  go_enter Tryz.func86, Tryz.ntmps86
  go_wp2
  refine bodyPost_ret (results_stp rfl _ _ rfl (blk_nw _ _ (by simp))) rfl ?_
  exact ⟨rfl, rfl⟩
set_option maxRecDepth 100000 in
theorem seqLe_any (x : En) (s : Int) (NS : Nat) (w : World) (hs : w.cell? ⟨NS, 0, none⟩ = some (.int .i64 s)) : Calls Tryz.prog 77 #[.agg #[.string x.key, .int .i64 x.seq, .int .i64 x.kind, .string x.val], .pointer (some ⟨NS, 0, none⟩)] w fun e w' => e = .returned (.bool (decide (x.seq ≤ s))) ∧ Below w.heap.size w w' := by
  have hs2 : ∀ o, (w.alloc o).cell? ⟨NS, 0, none⟩ = some (.int .i64 s) := fun o => cellAl hs o
  have UB : Hid (∀ o, Below w.heap.size w (w.alloc o)) := fun o => up_alloc _ _
  go_enter Tryz.func77, Tryz.ntmps77
  go_wp2_with fail
  go_ret
  exact ⟨rfl, UB.out _⟩
def IdxS (l : List En) (s r : Int) : Prop := (r = -1 ∧ ∀ y ∈ l, decide (y.seq ≤ s) = false) ∨ ∃ (k : Nat) (y : En), l[k]? = some y ∧ r = (k : Int) ∧ (∀ y ∈ l.take k, decide (y.seq ≤ s) = false) ∧ decide (y.seq ≤ s) = true
set_option maxHeartbeats 1000000 in
set_option maxRecDepth 100000 in
theorem indexS_any (l : List En) (v : Value) (s : Int) (NS : Nat) (w : World) (hv : EntsR w v l) (hs : w.cell? ⟨NS, 0, none⟩ = some (.int .i64 s)) :
    Calls Tryz.prog 46 #[v, .func (.func 77) #[] #[.pointer (some ⟨NS, 0, none⟩)]] w fun e w' => ∃ r, e = .returned (.int .i64 r) ∧ Hid (IdxS l s r) ∧ Hid (Below w.heap.size w w') := by
  have HV : Hid (EntsR w v l ∧ w.cell? ⟨NS, 0, none⟩ = some (.int .i64 s)) := ⟨hv, hs⟩
  obtain ⟨a, cap, rfl, hcap, hmax⟩ := hv.len
  clear hv hs
  unfold maxLen at hmax
  go_enter Tryz.func46, Tryz.ntmps46
  go_wp2_with fail
  go_loopw [8] (fun i wr => ∃ k : Nat, k ≤ l.length ∧ i = .int .i64 k ∧ Hid (∀ y ∈ l.take k, decide (y.seq ≤ s) = false) ∧ Hid (Below w.heap.size w wr)) (fun i _ => l.length - (intOf i).toNat)
  case atStart => exact ⟨0, Nat.zero_le _, rfl, by simp [Hid], Below.refl _ _⟩
  case round =>
    obtain ⟨k, hk, rfl, HK, up⟩ := hrel
    by_cases hlt : k < l.length
    · have hlt' : (k : Int) < (l.length : Int) := by omega
      obtain ⟨b, off, cap', y, e, hy, c0, c1, c2, c3⟩ := (HV.out.1.up up.out).at k hlt
      simp at e
      obtain ⟨rfl, rfl⟩ := e
      have HY : Hid (l[k]? = some y) := hy
      have HC := hid (seqLe_any y s NS wr ((up.out.cell (World.block_lt_of_cell? w _ HV.out.2)).trans HV.out.2))
      clear hy
      cases d : decide (y.seq ≤ s) with
      | true =>
        have HM : Hid (IdxS l s (k : Int)) := .inr ⟨k, y, HY.out, rfl, HK.out, d⟩
        rw [d] at HC
        clear d
        go_wp2_with fail
        refine HC.out.mono ?_
        rintro e w1 ⟨rfl, hb1⟩
        have up1 : Hid (Below w.heap.size w w1) := up_trans up.out hb1
        clear hb1
        go_wp2_with fail
        go_ret
        exact ⟨_, rfl, HM, up1⟩
      | false =>
        have HK2 : Hid (∀ y ∈ l.take (k + 1), decide (y.seq ≤ s) = false) := by
          unfold Hid
          rw [List.take_add_one, HY.out]
          intro z hz
          rcases List.mem_append.1 hz with q | q
          · exact HK.out z q
          · simp only [Option.toList_some, List.mem_singleton] at q; rw [q]; exact d
        rw [d] at HC
        clear d
        go_wp2_with fail
        refine HC.out.mono ?_
        rintro e w1 ⟨rfl, hb1⟩
        have up1 : Hid (Below w.heap.size w w1) := up_trans up.out hb1
        clear hb1
        go_wp2_with fail
        exact ⟨⟨k + 1, by omega, by go_num, HK2, up1⟩, by simp [intOf]; omega⟩
    · have hlt' : ¬ (k : Int) < (l.length : Int) := by omega
      obtain rfl : k = l.length := by omega
      have HM : Hid (IdxS l s (-1)) := by
        refine .inl ⟨rfl, ?_⟩
        have := HK.out
        rwa [List.take_length] at this
      go_wp2_with fail
      go_ret
      exact ⟨_, rfl, HM, up⟩
theorem sees_none {l : List En} {s : Int} (h : ∀ y ∈ l, decide (y.seq ≤ s) = false) : seesM l s = none := by
  unfold seesM
  rw [List.find?_eq_none]
  intro y hy
  rw [h y hy]
  decide
theorem sees_some {l : List En} {s : Int} {k : Nat} {y : En} (hy : l[k]? = some y) (h : ∀ y ∈ l.take k, decide (y.seq ≤ s) = false) (ht : decide (y.seq ≤ s) = true) : seesM l s = some y := by
  unfold seesM
  rw [List.find?_eq_some_iff_append]
  refine ⟨ht, l.take k, l.drop (k + 1), ?_, fun z hz => by rw [h z hz]; rfl⟩
  have hk := List.getElem?_eq_some_iff.1 hy
  rw [← hk.2, ← List.drop_eq_getElem_cons hk.1, List.take_append_drop]
def AtV (g : List En) (s : Int) (y : En) (ok : Bool) : Prop := (seesM g s = none ∧ ok = false) ∨ (seesM g s = some y ∧ ok = true)
set_option maxHeartbeats 1000000 in
set_option maxRecDepth 100000 in
theorem at_any (g : List En) (a : Option Addr) (n c : Nat) (s : Int) (w : World) (hv : EntsR w (.slice a n c) g) :
    Calls Tryz.prog 45 #[.slice a n c, .int .i64 s] w fun e w' => ∃ (y : En) (ok : Bool), e = .returned (.tuple #[.agg #[.string y.key, .int .i64 y.seq, .int .i64 y.kind, .string y.val], .bool ok]) ∧ Hid (AtV g s y ok) ∧ Hid (Below w.heap.size w w') := by
  have HV : Hid (EntsR w (.slice a n c) g) := hv
  obtain ⟨a1, c1, e1, hc, hm⟩ := hv.len
  simp only [Value.slice.injEq] at e1
  obtain ⟨rfl, hn, rfl⟩ := e1
  subst hn
  have hl63 : g.length ≤ 9223372036854775807 := by unfold maxLen at hm; omega
  clear hv
  obtain ⟨w2, hw2⟩ : ∃ w2, w2 = (w.alloc (.cells #[.int .i64 s] 3)).alloc (.cells #[.string ⟨#[]⟩, .int .i64 0, .int .i64 0, .string ⟨#[]⟩] 50) := ⟨_, rfl⟩
  have HW2 : Hid ((w.alloc (.cells #[.int .i64 s] 3)).alloc (.cells #[.string ⟨#[]⟩, .int .i64 0, .int .i64 0, .string ⟨#[]⟩] 50) = w2) := hw2.symm
  have U2 : Hid (Below w.heap.size w w2) := by rw [hw2]; exact up_al (up_alloc _ _) _
  have B0 : Hid (w2.heap[w.heap.size]? = some (.cells #[.int .i64 s] 3)) := by rw [hw2]; exact blk_up (blk_new _ _) (up_alloc _ _)
  have B1 : Hid (w2.heap[w.heap.size + 1]? = some (.cells #[.string ⟨#[]⟩, .int .i64 0, .int .i64 0, .string ⟨#[]⟩] 50)) := by
    rw [hw2]
    exact blk_nw _ _ (by simp)
  clear hw2
  have HI := hid (indexS_any g _ s w.heap.size w2 (HV.out.up U2.out) (blk_cell B0.out 0 _ rfl))
  go_enter Tryz.func45, Tryz.ntmps45
  go_upto_region 1 with fail
  rw [HW2.out]
  go_wp2_with fail
  refine HI.out.mono ?_
  rintro e w3 ⟨r, rfl, HR, u3⟩
  have HB1 : Hid (w3.heap[w.heap.size + 1]? = some (.cells #[.string ⟨#[]⟩, .int .i64 0, .int .i64 0, .string ⟨#[]⟩] 50)) := blk_up B1.out u3.out
  have U3 : Hid (Below w.heap.size w w3) := up_trans U2.out u3.out
  clear HI HW2 U2 B0 B1 u3
  have d0 := blk_cell HB1.out 0 _ rfl
  have d1 := blk_cell HB1.out 1 _ rfl
  have d2 := blk_cell HB1.out 2 _ rfl
  have d3 := blk_cell HB1.out 3 _ rfl
  have f0 := fun k => blk_frozen HB1.out k
  rcases HR.out with ⟨rfl, hall⟩ | ⟨k, y, hy, rfl, hall, ht⟩
  · have HS : Hid (seesM g s = none) := sees_none hall
    clear hall HR
    go_wp2_with fail
    refine bodyPost_ret (results_ent (q := 4) (r := 5) rfl _ _ rfl (set4_blk HB1.out (.string ⟨#[]⟩) (.int .i64 0) (.int .i64 0) (.string ⟨#[]⟩))) rfl ?_
    exact ⟨⟨⟨#[]⟩, 0, 0, ⟨#[]⟩⟩, false, rfl, .inl ⟨HS.out, rfl⟩, U3.out.grown (set4_grown _ (w.heap.size + 1) _ _ _ _) U3.out.size (fun k hk => by injection hk with hk; omega)⟩
  · have HS : Hid (seesM g s = some y) := sees_some hy hall ht
    have hk := (List.getElem?_eq_some_iff.1 hy).1
    have hk' : (k : Int) < (g.length : Int) := by omega
    obtain ⟨b, off, cap', y', e, hy', c0, c1, c2, c3⟩ := (HV.out.up U3.out).at k hk
    simp only [Value.slice.injEq] at e
    obtain ⟨rfl, _, rfl⟩ := e
    obtain rfl : y' = y := by rw [hy] at hy'; exact (Option.some.inj hy').symm
    clear hall ht hy hy' HR
    have hkn : ¬ (k : Int) < 0 := by omega
    go_wp2_with fail
    refine bodyPost_ret (results_ent (q := 4) (r := 5) rfl _ _ rfl (set4_blk HB1.out (.string y'.key) (.int .i64 y'.seq) (.int .i64 y'.kind) (.string y'.val))) rfl ?_
    exact ⟨y', true, rfl, .inr ⟨HS.out, rfl⟩, U3.out.grown (set4_grown _ (w.heap.size + 1) _ _ _ _) U3.out.size (fun k hk => by injection hk with hk; omega)⟩
end Go.Proofs.YthiegmhplnbdlaaGreat

namespace Go.Proofs.YthiegmhplnbdlaaGreat
open Go.RowKit
set_option linter.unusedVariables false
set_option linter.unusedSimpArgs false
theorem Tryz.infoE : (Tryz.prog.info? 50).map (fun i => (i.zero, i.size, i.bytes)) = some (some (.agg #[.string ⟨#[]⟩, .int .i64 0, .int .i64 0, .string ⟨#[]⟩]), 4, 48) := by kernel_rfl
theorem enRow_oneQ (x : En) : ∀ u ∈ enRow x, u.oneCell' = true := by
  intro u hu
  unfold enRow at hu
  simp only [List.mem_cons, List.mem_nil_iff, or_false] at hu
  rcases hu with rfl | rfl | rfl | rfl <;> rfl
theorem rows_oneE (l : List En) : ∀ cs ∈ l.map enRow, ∀ u ∈ cs, u.oneCell' = true := by
  intro cs h
  obtain ⟨x, _, rfl⟩ := List.mem_map.1 h
  exact enRow_oneQ x
def OwnE (w : World) (base : Nat) (v : Value) (l : List En) : Prop := OwnR w base 50 4 v (l.map enRow)
theorem OwnE.up {w w' : World} {base : Nat} {v : Value} {l : List En} (h : OwnE w base v l) (hb : Below w.heap.size w w') : OwnE w' base v l := OwnR.up h hb
theorem OwnE.read {w : World} {base : Nat} {v : Value} {l : List En} (h : OwnE w base v l) : EntsR w v l := Rws.own h
theorem OwnE.mono {w : World} {base base' : Nat} {v : Value} {l : List En} (h : OwnE w base v l) (hb : base' ≤ base) : OwnE w base' v l := OwnR.mono h hb
theorem OwnE.form {w : World} {base : Nat} {v : Value} {l : List En} (h : OwnE w base v l) : ∃ a c, v = .slice a l.length c := by
  obtain ⟨a, c, e, _⟩ := h.read.len
  exact ⟨a, c, e⟩
end Go.Proofs.YthiegmhplnbdlaaGreat

namespace Go.Proofs.YthiegmhplnbdlaaGreat
open Go.RowKit Go.Shelf
set_option linter.unusedVariables false
set_option linter.unusedSimpArgs false
attribute [local go_sem] Oper.semAt_some
theorem MapW.inc {w : World} {b : Nat} {T : List En} (h : MapW w b T) {x : En} (hx : mayE x = true) :
    ∃ (v0 : Value) (st : Nat) (w2 w3 : World), (Instr.mapEntry 160 (.map (some b)) (.agg #[.string x.key, .int .i64 x.seq])).run Tryz.prog w = .ok (.tuple #[v0, .int .i64 (st : Int)]) w2 ∧
      (Instr.lookup 160 (.map (some b)) (.agg #[.string x.key, .int .i64 x.seq]) false).run Tryz.prog w2 = .ok (.int .i64 (cntT T x : Int)) w2 ∧
      (Instr.entryStore 160 (.map (some b)) (.int .i64 (st : Int)) (.int .i64 ((cntT T x : Int) + 1))).run Tryz.prog w2 = .ok () w3 ∧ MapW w3 b (T ++ [x]) ∧ w.grownBy w3 (some b) := by
  obtain ⟨v0, st, w2, e1, h2, e2, g1, s1⟩ := h.entry hx
  obtain ⟨w3, e3, h3, g2, s2⟩ := h2.stored e2
  exact ⟨v0, st, w2, w3, e1, h2.look hx, e3, h3, grown_trans g1 g2⟩
end Go.Proofs.YthiegmhplnbdlaaGreat

namespace Go.Proofs.YthiegmhplnbdlaaGreat
open Go.RowKit Go.Shelf
set_option linter.unusedVariables false
set_option linter.unusedSimpArgs false
theorem wpListIn_append_rowsQ {F : Fence} {nF : Nat} (w : World) {ops : Array Oper} {rest : List Oper} {o : Oper} {a : Act} {Q : Exit → Act → World → Prop} (hgd : o.guard = none) (s x : Operand) (t e : TypeId) (z : Value) (sz bytes : Nat)
    (ho : o.op = .call { callee := .builtin .append, args := #[s, x], argTypes := #[t, t] }) (ht : Tryz.prog.underlying t = some (.slice e))
    (hinf : (Tryz.prog.info? e).map (fun i => (i.zero, i.size, i.bytes)) = some (some z, sz, bytes)) (hzs : z.cells.size = sz) (hsz0 : 0 < sz)
    (base : Nat) (v : Value) (css0 : List (List Value)) (hs : a.eval s = v) (hown : OwnR w base e sz v css0)
    (vx : Value) (cssx : List (List Value)) (hx : a.eval x = vx) (hR : Rws sz w vx cssx) (h1 : ∀ cs ∈ cssx, ∀ u ∈ cs, u.oneCell' = true) (hb : (css0.length + cssx.length) * bytes ≤ 140737488355328) (hm : css0.length + cssx.length ≤ maxLen) (hbase : base ≤ w.heap.size)
    (h : ∀ v' w', OwnR w' base e sz v' (css0 ++ cssx) → w.grownBy w' v.ownBlock → wpListIn F nF Tryz.prog ops Q rest (a.put o.dst v') w') : wpListIn F nF Tryz.prog ops Q (o :: rest) a w := by
  obtain ⟨i0, hi, hz0, hz1, hz2⟩ := info_some hinf
  obtain ⟨hxx, ax, cap, rfl, hc1, hc2, hn, h4⟩ := hR
  have fin : ∀ v' w', w'.ownsRow base e sz v' (css0.length + cssx.length) (css0.flatten ++ cssx.flatten) → w.grownBy w' v.ownBlock → wpListIn F nF Tryz.prog ops Q rest (a.put o.dst v') w' := by
    intro v' w' q1 q2
    refine h v' w' ⟨?_, ?_⟩ q2
    · intro cs hcs
      rcases List.mem_append.1 hcs with q | q
      · exact hown.1 cs q
      · exact hxx cs q
    · rw [List.length_append, List.flatten_append]
      exact q1
  have hone : ∀ u ∈ cssx.flatten, u.oneCell' = true := by
    intro u hu
    obtain ⟨cs, q1, q2⟩ := List.mem_flatten.1 hu
    exact h1 cs q1 u q2
  cases ax with
  | none =>
    obtain rfl := hn rfl
    have hl : cssx.length = 0 := by omega
    obtain rfl : cssx = [] := List.length_eq_zero_iff.1 hl
    have hrun := run_append_owned_none (P := Tryz.prog) (w := w) base t o.type e i0 sz ht hi v css0.length css0.flatten hown.2
    refine wpListIn_plain hgd fun K hK => ?_
    unfold Oper.wpIn
    refine ⟨by simp [Oper.about, ho, resolve, Target.leads, Sem.run_pure], ?_⟩
    rw [Oper.semAt_plain F _ _ (by rw [ho]; intro c hc'; cases hc')]
    simp [execOp, ho, resolve, invoke, builtin, hs, hx, hrun, Result.andThen]
    exact hK _ _ (fin v w (by simpa using hown.2) (grown_refl w _))
  | some ad =>
    refine wpListIn_append_own_at w hgd s x t ho base e i0 z sz bytes ht hi hz0 hz1 hz2 hzs hsz0 v css0.length _ hs hown.2 ad cssx.length cap cssx.flatten hx (flat_rows cssx hxx) ?_ hone hm hb hbase ?_
    · intro j u hj
      have hjl : j < cssx.length * sz := by
        have := (List.getElem?_eq_some_iff.1 hj).1
        rw [flat_rows cssx hxx] at this
        exact this
      have hne : cssx ≠ [] := by intro q; rw [q] at hjl; simp at hjl
      obtain ⟨b, off, e1, hcc⟩ := h4 hne
      simp at e1
      subst e1
      have hq : j / sz < cssx.length := (Nat.div_lt_iff_lt_mul hsz0).2 hjl
      have hr : j % sz < sz := Nat.mod_lt _ hsz0
      have hcs := List.getElem?_eq_getElem hq
      have hlen := hxx cssx[j / sz] (List.getElem_mem hq)
      have hu := flat_at cssx hxx (j / sz) _ hcs (j % sz) _ (List.getElem?_eq_getElem (by omega))
      have ej : j / sz * sz + j % sz = j := by rw [Nat.mul_comm]; exact Nat.div_add_mod j sz
      rw [ej, hj] at hu
      have := hcc (j / sz) _ hcs (j % sz) u (by rw [hu]; exact List.getElem?_eq_getElem (by omega))
      rw [Nat.add_assoc, ej] at this
      rw [Addr.add_lit]
      exact this
    · intro v' w' q1 q2 _ _
      exact fin v' w' q1 q2
theorem wpListIn_append_rowQ {F : Fence} {nF : Nat} (w0 : World) {ops : Array Oper} {rest : List Oper} {o : Oper} {a : Act} {Q : Exit → Act → World → Prop} (hgd : o.guard = none) (s x : Operand) (t e : TypeId) (z : Value) (sz bytes : Nat)
    (ho : o.op = .call { callee := .builtin .append, args := #[s, x], argTypes := #[t, t] }) (ht : Tryz.prog.underlying t = some (.slice e))
    (hinf : (Tryz.prog.info? e).map (fun i => (i.zero, i.size, i.bytes)) = some (some z, sz, bytes)) (hzs : z.cells.size = sz) (hsz0 : 0 < sz)
    (base : Nat) (v : Value) (css0 : List (List Value)) (hs : a.eval s = v) (hown : OwnR w0 base e sz v css0)
    (cs : List Value) (csa : Array Value) (N : Nat) (hN : N = w0.heap.size) (hcsa : cs.toArray = csa) (hcl : cs.length = sz) (hx : a.eval x = .slice (some ⟨N, 0, none⟩) 1 1) (h1 : ∀ u ∈ cs, u.oneCell' = true) (hb : (css0.length + 1) * bytes ≤ 140737488355328) (hm : css0.length + 1 ≤ maxLen) (hbase : base ≤ w0.heap.size)
    (h : ∀ v' w', OwnR w' base e sz v' (css0 ++ [cs]) → w0.grownBy w' v.ownBlock → wpListIn F nF Tryz.prog ops Q rest (a.put o.dst v') w') : wpListIn F nF Tryz.prog ops Q (o :: rest) a (w0.alloc (.cells csa e)) := by
  subst hcsa
  subst hN
  have hR := Rws.made (sz := sz) w0 e [cs] (by simp [hcl]) (by simp [maxLen])
  simp only [List.flatten_cons, List.flatten_nil, List.append_nil, List.length_cons, List.length_nil, Nat.zero_add] at hR
  refine wpListIn_append_rowsQ _ hgd s x t e z sz bytes ho ht hinf hzs hsz0 base v css0 hs ⟨hown.1, World.ownsRow.alloc hown.2 _⟩ _ [cs] hx hR (by simpa using h1) (by simpa using hb) (by simpa using hm) (by simp; omega) ?_
  intro v' w' q1 q2
  exact h v' w' q1 (grown_trans (grown_up (up_alloc w0 _) _) q2)
theorem up_drw (W : World) : Below W.heap.size W W.drew := ⟨rfl, rfl, rfl, Nat.le_refl _, fun _ _ => rfl⟩
theorem loop_back {r : Loop} (h : r.state = .ready ∧ r.pending = none) : ({ ({ r with state := .busy } : Loop) with state := if (none : Option Code).isNone then LoopState.ready else LoopState.done, pending := none } : Loop) = r := by
  obtain ⟨r1, r2⟩ := h
  cases r
  simp at r1 r2
  subst r1 r2
  rfl
end Go.Proofs.YthiegmhplnbdlaaGreat
