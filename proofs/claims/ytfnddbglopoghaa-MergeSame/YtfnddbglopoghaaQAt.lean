/- The program's at and stampOf of layer 13. -/
import Derived.Test.YtfnddbglopoghaaQChk
import Derived.Test.YtfnddbglopoghaaQMap
import Derived.Test.YtfnddbglopoghaaXFirst
namespace Go.Proofs.Ytfnddbglopoghaa
open Go.RowKit
set_option linter.unusedVariables false
set_option linter.unusedSimpArgs false

theorem blk_nw (w : World) {N : Nat} (o : Obj) (h : w.heap.size = N) : (w.alloc o).heap[N]? = some o := by rw [← h]; exact blk_new w o
theorem blk_al {w : World} {B : Nat} {o : Obj} (h : w.heap[B]? = some o) (o' : Obj) : (w.alloc o').heap[B]? = some o := blk_up h (up_alloc _ _)
theorem results_stp {fn : Func} (h : fn.results = #[.cell 2 72]) (tmps : Array Value) (w : World) {N : Nat} {x y : Value} (ht : tmps.getD 2 undef = .pointer (some ⟨N, 0, none⟩)) (hc : w.heap[N]? = some (.cells #[x, y] 72)) : (results fn tmps).run Try.prog w = .ok (.agg #[x, y]) w := by
  have c0 := blk_cell hc 0 x rfl
  have c1 := blk_cell hc 1 y rfl
  have ht' : tmps[2]?.getD undef = .pointer (some ⟨N, 0, none⟩) := by simpa using ht
  simp only [results, h]
  simp [ht', go_sem, c0, c1]
set_option maxRecDepth 100000 in
theorem stampOf_any (x : En) (w : World) : Calls Try.prog 43 #[.agg #[.string x.key, .int .i64 x.seq, .int .i64 x.kind, .string x.val]] w fun e w' => e = .returned (.agg #[.string x.key, .int .i64 x.seq]) ∧ w' = (w.alloc (.cells #[.string x.key, .int .i64 x.seq, .int .i64 x.kind, .string x.val] 47)).alloc (.cells #[.string x.key, .int .i64 x.seq] 72) := by
  go_enter Try.func43, Try.ntmps43
  go_wp2
  refine bodyPost_ret (results_stp rfl _ _ rfl (blk_nw _ _ (by simp))) rfl ?_
  exact ⟨rfl, rfl⟩
set_option maxRecDepth 100000 in
theorem seqLe_any (x : En) (s : Int) (NS : Nat) (w : World) (hs : w.cell? ⟨NS, 0, none⟩ = some (.int .i64 s)) : Calls Try.prog 40 #[.agg #[.string x.key, .int .i64 x.seq, .int .i64 x.kind, .string x.val], .pointer (some ⟨NS, 0, none⟩)] w fun e w' => e = .returned (.bool (decide (x.seq ≤ s))) ∧ Below w.heap.size w w' := by
  have hs2 : ∀ o, (w.alloc o).cell? ⟨NS, 0, none⟩ = some (.int .i64 s) := fun o => cellAl hs o
  have UB : Hid (∀ o, Below w.heap.size w (w.alloc o)) := fun o => up_alloc _ _
  go_enter Try.func40, Try.ntmps40
  go_wp2_with fail
  go_ret
  exact ⟨rfl, UB.out _⟩
/-- The first that a number sees. -/
def IdxS (l : List En) (s r : Int) : Prop := (r = -1 ∧ ∀ y ∈ l, decide (y.seq ≤ s) = false) ∨ ∃ (k : Nat) (y : En), l[k]? = some y ∧ r = (k : Int) ∧ (∀ y ∈ l.take k, decide (y.seq ≤ s) = false) ∧ decide (y.seq ≤ s) = true
set_option maxHeartbeats 1000000 in
set_option maxRecDepth 100000 in
theorem indexS_any (l : List En) (v : Value) (s : Int) (NS : Nat) (w : World) (hv : EntsR w v l) (hs : w.cell? ⟨NS, 0, none⟩ = some (.int .i64 s)) :
    Calls Try.prog 39 #[v, .func (.func 40) #[] #[.pointer (some ⟨NS, 0, none⟩)]] w fun e w' => ∃ r, e = .returned (.int .i64 r) ∧ Hid (IdxS l s r) ∧ Hid (Below w.heap.size w w') := by
  have HV : Hid (EntsR w v l ∧ w.cell? ⟨NS, 0, none⟩ = some (.int .i64 s)) := ⟨hv, hs⟩
  obtain ⟨a, cap, rfl, hcap, hmax⟩ := hv.len
  clear hv hs
  unfold maxLen at hmax
  go_enter Try.func39, Try.ntmps39
  go_wp2_with fail
  go_loopw [8] (fun i wr => ∃ k : Nat, k ≤ l.length ∧ i = .int .i64 k ∧ Hid (∀ y ∈ l.take k, decide (y.seq ≤ s) = false) ∧ Hid (Below w.heap.size w wr)) (fun i _ => l.length - (intOf i).toNat)
  case atStart => exact ⟨0, Nat.zero_le _, rfl, by simp [Hid], Below.refl _ _⟩
  case round =>
    obtain ⟨k, hk, rfl, HK, up⟩ := hrel
    by_cases hlt : k < l.length
    · have hlt' : (k : Int) < (l.length : Int) := by omega
      obtain ⟨b, off, cap', y, e, hy, c0, c1, c2, c3⟩ := (HV.out.1.up up.out).at k hlt
      simp at e
      obtain ⟨rfl, rfl⟩ := e
      have HY : Hid (l[k]? = some y) := hy
      have HC := hid (seqLe_any y s NS wr ((up.out.cell (World.block_lt_of_cell? w _ HV.out.2)).trans HV.out.2))
      clear hy
      cases d : decide (y.seq ≤ s) with
      | true =>
        have HM : Hid (IdxS l s (k : Int)) := .inr ⟨k, y, HY.out, rfl, HK.out, d⟩
        rw [d] at HC
        clear d
        go_wp2_with fail
        refine HC.out.mono ?_
        rintro e w1 ⟨rfl, hb1⟩
        have up1 : Hid (Below w.heap.size w w1) := up_trans up.out hb1
        clear hb1
        go_wp2_with fail
        go_ret
        exact ⟨_, rfl, HM, up1⟩
      | false =>
        have HK2 : Hid (∀ y ∈ l.take (k + 1), decide (y.seq ≤ s) = false) := by
          unfold Hid
          rw [List.take_add_one, HY.out]
          intro z hz
          rcases List.mem_append.1 hz with q | q
          · exact HK.out z q
          · simp only [Option.toList_some, List.mem_singleton] at q; rw [q]; exact d
        rw [d] at HC
        clear d
        go_wp2_with fail
        refine HC.out.mono ?_
        rintro e w1 ⟨rfl, hb1⟩
        have up1 : Hid (Below w.heap.size w w1) := up_trans up.out hb1
        clear hb1
        go_wp2_with fail
        exact ⟨⟨k + 1, by omega, by go_num, HK2, up1⟩, by simp [intOf]; omega⟩
    · have hlt' : ¬ (k : Int) < (l.length : Int) := by omega
      obtain rfl : k = l.length := by omega
      have HM : Hid (IdxS l s (-1)) := by
        refine .inl ⟨rfl, ?_⟩
        have := HK.out
        rwa [List.take_length] at this
      go_wp2_with fail
      go_ret
      exact ⟨_, rfl, HM, up⟩
theorem sees_none {l : List En} {s : Int} (h : ∀ y ∈ l, decide (y.seq ≤ s) = false) : seesM l s = none := by
  unfold seesM
  rw [List.find?_eq_none]
  intro y hy
  rw [h y hy]
  decide
theorem sees_some {l : List En} {s : Int} {k : Nat} {y : En} (hy : l[k]? = some y) (h : ∀ y ∈ l.take k, decide (y.seq ≤ s) = false) (ht : decide (y.seq ≤ s) = true) : seesM l s = some y := by
  unfold seesM
  rw [List.find?_eq_some_iff_append]
  refine ⟨ht, l.take k, l.drop (k + 1), ?_, fun z hz => by rw [h z hz]; rfl⟩
  have hk := List.getElem?_eq_some_iff.1 hy
  rw [← hk.2, ← List.drop_eq_getElem_cons hk.1, List.take_append_drop]
/-- What at answers. -/
def AtV (g : List En) (s : Int) (y : En) (ok : Bool) : Prop := (seesM g s = none ∧ ok = false) ∨ (seesM g s = some y ∧ ok = true)
set_option maxHeartbeats 1000000 in
set_option maxRecDepth 100000 in
theorem at_any (g : List En) (a : Option Addr) (n c : Nat) (s : Int) (w : World) (hv : EntsR w (.slice a n c) g) :
    Calls Try.prog 23 #[.slice a n c, .int .i64 s] w fun e w' => ∃ (y : En) (ok : Bool), e = .returned (.tuple #[.agg #[.string y.key, .int .i64 y.seq, .int .i64 y.kind, .string y.val], .bool ok]) ∧ Hid (AtV g s y ok) ∧ Hid (Below w.heap.size w w') := by
  have HV : Hid (EntsR w (.slice a n c) g) := hv
  obtain ⟨a1, c1, e1, hc, hm⟩ := hv.len
  simp only [Value.slice.injEq] at e1
  obtain ⟨rfl, hn, rfl⟩ := e1
  subst hn
  have hl63 : g.length ≤ 9223372036854775807 := by unfold maxLen at hm; omega
  clear hv
  obtain ⟨w2, hw2⟩ : ∃ w2, w2 = (w.alloc (.cells #[.int .i64 s] 3)).alloc (.cells #[.string ⟨#[]⟩, .int .i64 0, .int .i64 0, .string ⟨#[]⟩] 47) := ⟨_, rfl⟩
  have HW2 : Hid ((w.alloc (.cells #[.int .i64 s] 3)).alloc (.cells #[.string ⟨#[]⟩, .int .i64 0, .int .i64 0, .string ⟨#[]⟩] 47) = w2) := hw2.symm
  have U2 : Hid (Below w.heap.size w w2) := by rw [hw2]; exact up_al (up_alloc _ _) _
  have B0 : Hid (w2.heap[w.heap.size]? = some (.cells #[.int .i64 s] 3)) := by rw [hw2]; exact blk_up (blk_new _ _) (up_alloc _ _)
  have B1 : Hid (w2.heap[w.heap.size + 1]? = some (.cells #[.string ⟨#[]⟩, .int .i64 0, .int .i64 0, .string ⟨#[]⟩] 47)) := by
    rw [hw2]
    exact blk_nw _ _ (by simp)
  clear hw2
  have HI := hid (indexS_any g _ s w.heap.size w2 (HV.out.up U2.out) (blk_cell B0.out 0 _ rfl))
  go_enter Try.func23, Try.ntmps23
  go_upto_region 1 with fail
  rw [HW2.out]
  go_wp2_with fail
  refine HI.out.mono ?_
  rintro e w3 ⟨r, rfl, HR, u3⟩
  have HB1 : Hid (w3.heap[w.heap.size + 1]? = some (.cells #[.string ⟨#[]⟩, .int .i64 0, .int .i64 0, .string ⟨#[]⟩] 47)) := blk_up B1.out u3.out
  have U3 : Hid (Below w.heap.size w w3) := up_trans U2.out u3.out
  clear HI HW2 U2 B0 B1 u3
  have d0 := blk_cell HB1.out 0 _ rfl
  have d1 := blk_cell HB1.out 1 _ rfl
  have d2 := blk_cell HB1.out 2 _ rfl
  have d3 := blk_cell HB1.out 3 _ rfl
  have f0 := fun k => blk_frozen HB1.out k
  rcases HR.out with ⟨rfl, hall⟩ | ⟨k, y, hy, rfl, hall, ht⟩
  · have HS : Hid (seesM g s = none) := sees_none hall
    clear hall HR
    go_wp2_with fail
    refine bodyPost_ret (results_ent (q := 4) (r := 5) rfl _ _ rfl (set4_blk HB1.out (.string ⟨#[]⟩) (.int .i64 0) (.int .i64 0) (.string ⟨#[]⟩))) rfl ?_
    exact ⟨⟨⟨#[]⟩, 0, 0, ⟨#[]⟩⟩, false, rfl, .inl ⟨HS.out, rfl⟩, U3.out.grown (set4_grown _ (w.heap.size + 1) _ _ _ _) U3.out.size (fun k hk => by injection hk with hk; omega)⟩
  · have HS : Hid (seesM g s = some y) := sees_some hy hall ht
    have hk := (List.getElem?_eq_some_iff.1 hy).1
    have hk' : (k : Int) < (g.length : Int) := by omega
    obtain ⟨b, off, cap', y', e, hy', c0, c1, c2, c3⟩ := (HV.out.up U3.out).at k hk
    simp only [Value.slice.injEq] at e
    obtain ⟨rfl, _, rfl⟩ := e
    obtain rfl : y' = y := by rw [hy] at hy'; exact (Option.some.inj hy').symm
    clear hall ht hy hy' HR
    have hkn : ¬ (k : Int) < 0 := by omega
    go_wp2_with fail
    refine bodyPost_ret (results_ent (q := 4) (r := 5) rfl _ _ rfl (set4_blk HB1.out (.string y'.key) (.int .i64 y'.seq) (.int .i64 y'.kind) (.string y'.val))) rfl ?_
    exact ⟨y', true, rfl, .inr ⟨HS.out, rfl⟩, U3.out.grown (set4_grown _ (w.heap.size + 1) _ _ _ _) U3.out.size (fun k hk => by injection hk with hk; omega)⟩
end Go.Proofs.Ytfnddbglopoghaa
