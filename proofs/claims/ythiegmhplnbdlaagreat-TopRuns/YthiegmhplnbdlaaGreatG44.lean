/- Texts of layers 1 to 13, in this order. -/
import Derived.Test.YthiegmhplnbdlaaGreatG43
import Derived.Test.YthiegmhplnbdlaaGreatG12

namespace Go.Proofs.YthiegmhplnbdlaaGreat
open Go.RowKit SumPlain
set_option linter.unusedVariables false
theorem behind_any (s : Int) (a : Option Addr) (n c : Nat) (w : World) (h0 : 0 ≤ s) (h1 : s ≤ 1099511627776) (hn : n ≤ 64) :
    Calls Tryz.prog 26 #[.agg #[.int .i64 s, .slice a n c]] w fun e w' => e = .returned (.int .i64 (s + (n : Int))) ∧ w' = w.alloc (.cells #[.int .i64 s, .slice a n c] 28) := by
  go_enter Tryz.func26, Tryz.ntmps26
  go_wp2
  go_ret
  exact ⟨rfl, rfl⟩
theorem results_bat3 {fn : Func} {t : TypeId} (h : fn.results = #[.cell 2 t, .tmp 3, .tmp 4]) (hl : t = 28 ∨ t = 28) (tmps : Array Value) (w : World) {N : Nat} {a b : Value} (ht : tmps.getD 2 undef = .pointer (some ⟨N, 0, none⟩))
    (hc : w.heap[N]? = some (.cells #[a, b] t)) : (results fn tmps).run Tryz.prog w = .ok (.tuple #[.agg #[a, b], tmps.getD 3 undef, tmps.getD 4 undef]) w := by
  have c0 := blk_cell hc 0 a rfl
  have c1 := blk_cell hc 1 b rfl
  have ht' : tmps[2]?.getD undef = .pointer (some ⟨N, 0, none⟩) := by simpa using ht
  rcases hl with rfl | rfl
  · simp only [results, h]
    simp [ht', go_sem, c0, c1]
  · simp only [results, h]
    simp [ht', go_sem, c0, c1]
theorem fget_shape (b : List Int) (v : Value) (w : World) (hv : Octs w v b) :
    Calls Tryz.prog 53 #[v] w fun e w' => ∃ ad cd, e = .returned (.tuple #[.agg #[.int .i64 (fget b).1, .slice ad (fget b).2.1.length cd], .int .i64 (fget b).2.2.1, .int .i64 (fget b).2.2.2]) ∧ Hid (Octs w' (.slice ad (fget b).2.1.length cd) (fget b).2.1) ∧ Hid (Below w.heap.size w w') := by
  refine (fget_any b v w hv).mono ?_
  rintro e w' ⟨vd, rfl, hn, hb⟩
  obtain ⟨ad, cd, rfl, _, _⟩ := hn.1.len
  exact ⟨ad, cd, rfl, hn.1, hb⟩
set_option maxHeartbeats 1000000 in
theorem first_none (b : List Int) (v : Value) (w : World) (hv : Octs w v b) (hp : firstP 4 b = none) :
    Calls Tryz.prog 25 #[v] w fun e w' => ∃ sb ab nb cb n y, e = .returned (.tuple #[.agg #[.int .i64 sb, .slice ab nb cb], .int .i64 n, .int .i64 y]) ∧ Hid (y ≠ 0) ∧ Hid (Below w.heap.size w w') := by
  obtain ⟨a, cap, rfl, _, _⟩ := hv.len
  have HV : Hid (∀ o, Octs (w.alloc o) (.slice a b.length cap) b) := fun o => hv.up (up_alloc w o)
  clear hv
  have HG := fun o => fget_shape b _ _ (HV.out o)
  obtain ⟨k0, d0, z0, e0, hE⟩ : ∃ k0 d0 z0 e0, fget b = (k0, d0, z0, e0) := ⟨_, _, _, _, rfl⟩
  unfold firstP at hp
  simp only [hE] at HG hp
  have HG' : Hid (∀ o, Calls Tryz.prog 53 #[.slice a b.length cap] (w.alloc o) fun e w' => ∃ ad cd, e = .returned (.tuple #[.agg #[.int .i64 k0, .slice ad d0.length cd], .int .i64 z0, .int .i64 e0]) ∧ Hid (Octs w' (.slice ad d0.length cd) d0) ∧ Hid (Below (w.alloc o).heap.size (w.alloc o) w')) := HG
  clear HG hE HV
  by_cases he : e0 = 0
  · subst he
    by_cases hk : k0 = 1
    · subst hk
      simp only [and_self, if_true] at hp
      cases hd : decPW 4 d0 with
      | ok v => rw [hd] at hp; cases hp
      | error y =>
        have hy := decP_err (by decide) hd
        clear hp
        go_enter Tryz.func25, Tryz.ntmps25
        go_wp2_with fail
        refine (HG'.out _).mono ?_
        rintro e w1 ⟨ad, cd, rfl, O1, B1⟩
        have D1 : Hid (w1.heap[w.heap.size]? = some (.cells #[.int .i64 0, .slice none 0 0] 28)) := blk_up (blk_new w _) B1.out
        have U1 : Hid (Below w.heap.size w w1) := up_trans (up_alloc w _) B1.out
        clear B1 HG'
        go_wp2_with fail
        refine (decode_bad d0 ad cd _ (O1.out.up (up_alloc _ _)) y hd).mono ?_
        rintro e w2 ⟨rfl, b2⟩
        have D2 : Hid (w2.heap[w.heap.size]? = some (.cells #[.int .i64 0, .slice none 0 0] 28)) := blk_up (blk_up D1.out (up_alloc _ _)) b2
        have U2 : Hid (Below w.heap.size w w2) := up_trans (up_al U1.out _) b2
        have D3 : Hid ((w2.alloc (.cells #[.int .i64 0, .slice none 0 0] 28)).heap[w.heap.size]? = some (.cells #[.int .i64 0, .slice none 0 0] 28)) := blk_up D2.out (up_alloc _ _)
        have U3 : Hid (Below w.heap.size w (w2.alloc (.cells #[.int .i64 0, .slice none 0 0] 28))) := up_al U2.out _
        have q0 : ∀ o, (w2.alloc o).cell? ⟨w.heap.size, 0, none⟩ = some (.int .i64 0) := fun o => blk_cell (blk_up D2.out (up_alloc _ _)) 0 _ rfl
        have q1 : ∀ o, (w2.alloc o).cell? ⟨w.heap.size, 1, none⟩ = some (.slice none 0 0) := fun o => blk_cell (blk_up D2.out (up_alloc _ _)) 1 _ rfl
        have z0 : ∀ o, (w2.alloc o).frozen? ⟨w.heap.size, 0, none⟩ = false := fun o => blk_frozen (blk_up D2.out (up_alloc _ _)) 0
        have z1 : ∀ o, (w2.alloc o).frozen? ⟨w.heap.size, 1, none⟩ = false := fun o => blk_frozen (blk_up D2.out (up_alloc _ _)) 1
        clear b2 hd O1
        go_wp2
        refine bodyPost_ret (results_bat3 rfl (.inl rfl) _ _ rfl (set2_blkF D3.out _ _)) rfl ?_
        exact ⟨_, _, _, _, _, _, rfl, hy, U3.out.grown (set2_grownF _ _ _ _) U3.out.size (fun k hk => by injection hk with hk; omega)⟩
    · have hk1 : (k0 == 1) = false := by simp [hk]
      have hk2 : (k0 != 1) = true := by simp [hk]
      clear hp
      go_enter Tryz.func25, Tryz.ntmps25
      go_wp2_with fail
      refine (HG'.out _).mono ?_
      rintro e w1 ⟨ad, cd, rfl, O1, B1⟩
      have D1 : Hid (w1.heap[w.heap.size]? = some (.cells #[.int .i64 0, .slice none 0 0] 28)) := blk_up (blk_new w _) B1.out
      have U1 : Hid (Below w.heap.size w w1) := up_trans (up_alloc w _) B1.out
      have D3 : Hid ((w1.alloc (.cells #[.int .i64 k0, .slice ad d0.length cd] 80)).heap[w.heap.size]? = some (.cells #[.int .i64 0, .slice none 0 0] 28)) := blk_up D1.out (up_alloc _ _)
      have U3 : Hid (Below w.heap.size w (w1.alloc (.cells #[.int .i64 k0, .slice ad d0.length cd] 80))) := up_al U1.out _
      have q0 : ∀ o, (w1.alloc o).cell? ⟨w.heap.size, 0, none⟩ = some (.int .i64 0) := fun o => blk_cell (blk_up D1.out (up_alloc _ _)) 0 _ rfl
      have q1 : ∀ o, (w1.alloc o).cell? ⟨w.heap.size, 1, none⟩ = some (.slice none 0 0) := fun o => blk_cell (blk_up D1.out (up_alloc _ _)) 1 _ rfl
      have z0 : ∀ o, (w1.alloc o).frozen? ⟨w.heap.size, 0, none⟩ = false := fun o => blk_frozen (blk_up D1.out (up_alloc _ _)) 0
      have z1 : ∀ o, (w1.alloc o).frozen? ⟨w.heap.size, 1, none⟩ = false := fun o => blk_frozen (blk_up D1.out (up_alloc _ _)) 1
      clear B1 HG' O1
      go_wp2
      refine bodyPost_ret (results_bat3 rfl (.inl rfl) _ _ rfl (set2_blkF D3.out _ _)) rfl ?_
      exact ⟨_, _, _, _, _, _, rfl, by unfold Hid; decide, U3.out.grown (set2_grownF _ _ _ _) U3.out.size (fun k hk => by injection hk with hk; omega)⟩
  · have he1 : (e0 == 0) = false := by simp [he]
    clear hp
    go_enter Tryz.func25, Tryz.ntmps25
    go_wp2_with fail
    refine (HG'.out _).mono ?_
    rintro e w1 ⟨ad, cd, rfl, O1, B1⟩
    have D1 : Hid (w1.heap[w.heap.size]? = some (.cells #[.int .i64 0, .slice none 0 0] 28)) := blk_up (blk_new w _) B1.out
    have U1 : Hid (Below w.heap.size w w1) := up_trans (up_alloc w _) B1.out
    have D3 : Hid ((w1.alloc (.cells #[.int .i64 k0, .slice ad d0.length cd] 80)).heap[w.heap.size]? = some (.cells #[.int .i64 0, .slice none 0 0] 28)) := blk_up D1.out (up_alloc _ _)
    have U3 : Hid (Below w.heap.size w (w1.alloc (.cells #[.int .i64 k0, .slice ad d0.length cd] 80))) := up_al U1.out _
    have q0 : ∀ o, (w1.alloc o).cell? ⟨w.heap.size, 0, none⟩ = some (.int .i64 0) := fun o => blk_cell (blk_up D1.out (up_alloc _ _)) 0 _ rfl
    have q1 : ∀ o, (w1.alloc o).cell? ⟨w.heap.size, 1, none⟩ = some (.slice none 0 0) := fun o => blk_cell (blk_up D1.out (up_alloc _ _)) 1 _ rfl
    have z0 : ∀ o, (w1.alloc o).frozen? ⟨w.heap.size, 0, none⟩ = false := fun o => blk_frozen (blk_up D1.out (up_alloc _ _)) 0
    have z1 : ∀ o, (w1.alloc o).frozen? ⟨w.heap.size, 1, none⟩ = false := fun o => blk_frozen (blk_up D1.out (up_alloc _ _)) 1
    clear B1 HG' O1
    go_wp2
    refine bodyPost_ret (results_bat3 rfl (.inl rfl) _ _ rfl (set2_blkF D3.out _ _)) rfl ?_
    exact ⟨_, _, _, _, _, _, rfl, he, U3.out.grown (set2_grownF _ _ _ _) U3.out.size (fun k hk => by injection hk with hk; omega)⟩
set_option maxHeartbeats 1000000 in
theorem first_some (b : List Int) (v : Value) (w : World) (hv : Octs w v b) (s : Int) (cs : List Chg) (n : Nat) (hp : firstP 4 b = some (s, cs, n)) :
    Calls Tryz.prog 25 #[v] w fun e w' => ∃ a' c', e = .returned (.tuple #[.agg #[.int .i64 s, .slice a' cs.length c'], .int .i64 (n : Int), .int .i64 0]) ∧ Hid (OwnC w' w.heap.size (.slice a' cs.length c') cs) ∧ Hid (Below w.heap.size w w') := by
  obtain ⟨h6, hb, hz, he, hk, hd, _⟩ := firstP_some hv.1 hp
  obtain ⟨a, cap, rfl, _, _⟩ := hv.len
  have HV : Hid (∀ o, Octs (w.alloc o) (.slice a b.length cap) b) := fun o => hv.up (up_alloc w o)
  clear hv hp h6 hb
  have HG := fun o => fget_shape b _ _ (HV.out o)
  obtain ⟨k0, d0, z0, e0, hE⟩ : ∃ k0 d0 z0 e0, fget b = (k0, d0, z0, e0) := ⟨_, _, _, _, rfl⟩
  simp only [hE] at HG hz he hk hd
  subst he hk hz
  have HG' : Hid (∀ o, Calls Tryz.prog 53 #[.slice a b.length cap] (w.alloc o) fun e w' => ∃ ad cd, e = .returned (.tuple #[.agg #[.int .i64 1, .slice ad d0.length cd], .int .i64 (n : Int), .int .i64 0]) ∧ Hid (Octs w' (.slice ad d0.length cd) d0) ∧ Hid (Below (w.alloc o).heap.size (w.alloc o) w')) := HG
  clear HG hE HV
  go_enter Tryz.func25, Tryz.ntmps25
  go_wp2_with fail
  refine (HG'.out _).mono ?_
  rintro e w1 ⟨ad, cd, rfl, O1, B1⟩
  have D1 : Hid (w1.heap[w.heap.size]? = some (.cells #[.int .i64 0, .slice none 0 0] 28)) := blk_up (blk_new w _) B1.out
  have U1 : Hid (Below w.heap.size w w1) := up_trans (up_alloc w _) B1.out
  have S1 : Hid (w.heap.size < w1.heap.size) := blk_lt D1.out
  clear B1 HG'
  go_wp2_with fail
  refine (decode_ok d0 ad cd _ (O1.out.up (up_alloc _ _)) s cs hd).mono ?_
  rintro e w2 ⟨a', c', rfl, O2, B2⟩
  have D2 : Hid (w2.heap[w.heap.size]? = some (.cells #[.int .i64 0, .slice none 0 0] 28)) := blk_up (blk_up D1.out (up_alloc _ _)) B2.out
  have U2 : Hid (Below w.heap.size w w2) := up_trans (up_al U1.out _) B2.out
  have O2' : Hid (OwnC w2 (w.heap.size + 1) (.slice a' cs.length c') cs) := O2.out.mono (by have := S1.out; simp; omega)
  have D3 : Hid ((w2.alloc (.cells #[.int .i64 s, .slice a' cs.length c'] 28)).heap[w.heap.size]? = some (.cells #[.int .i64 0, .slice none 0 0] 28)) := blk_up D2.out (up_alloc _ _)
  have U3 : Hid (Below w.heap.size w (w2.alloc (.cells #[.int .i64 s, .slice a' cs.length c'] 28))) := up_al U2.out _
  have O3 : Hid (OwnC (w2.alloc (.cells #[.int .i64 s, .slice a' cs.length c'] 28)) (w.heap.size + 1) (.slice a' cs.length c') cs) := O2'.out.up (up_alloc _ _)
  have q0 : ∀ o, (w2.alloc o).cell? ⟨w.heap.size, 0, none⟩ = some (.int .i64 0) := fun o => blk_cell (blk_up D2.out (up_alloc _ _)) 0 _ rfl
  have q1 : ∀ o, (w2.alloc o).cell? ⟨w.heap.size, 1, none⟩ = some (.slice none 0 0) := fun o => blk_cell (blk_up D2.out (up_alloc _ _)) 1 _ rfl
  have z0 : ∀ o, (w2.alloc o).frozen? ⟨w.heap.size, 0, none⟩ = false := fun o => blk_frozen (blk_up D2.out (up_alloc _ _)) 0
  have z1 : ∀ o, (w2.alloc o).frozen? ⟨w.heap.size, 1, none⟩ = false := fun o => blk_frozen (blk_up D2.out (up_alloc _ _)) 1
  clear B2 hd O1 O2 O2'
  go_wp2
  refine bodyPost_ret (results_bat3 rfl (.inl rfl) _ _ rfl (set2_blkF D3.out _ _)) rfl ?_
  exact ⟨_, _, rfl, OwnC.mono (O3.out.kept (set2_grownF _ _ _ _) (fun g hg => by injection hg with hg; omega)) (by omega), U3.out.grown (set2_grownF _ _ _ _) U3.out.size (fun k hk => by injection hk with hk; omega)⟩
end Go.Proofs.YthiegmhplnbdlaaGreat

namespace Go.Proofs.YthiegmhplnbdlaaGreat
open Go.RowKit SumPlain
set_option linter.unusedVariables false
def brw (y : Value × Int × List Chg) : List Value := [.int .i64 y.2.1, y.1]
def BatsO (t : TypeId) (w : World) (base : Nat) (v : Value) (ys : List (Value × Int × List Chg)) : Prop := OwnR w base t 2 v (ys.map brw) ∧ ∀ y ∈ ys, OwnC w base y.1 y.2.2
theorem BatsO.up {t : TypeId} {w w' : World} {base : Nat} {v : Value} {ys : List (Value × Int × List Chg)} (h : BatsO t w base v ys) (hb : Below w.heap.size w w') : BatsO t w' base v ys := ⟨h.1.up hb, fun y hy => (h.2 y hy).up hb⟩
theorem BatsO.nil (t : TypeId) (w : World) (base : Nat) : BatsO t w base (.slice none 0 0) [] := ⟨OwnR.nil _ _ _ _, fun y hy => by cases hy⟩
theorem BatsO.shape {t : TypeId} {w : World} {base : Nat} {v : Value} {ys : List (Value × Int × List Chg)} (h : BatsO t w base v ys) : ∃ a c, v = .slice a ys.length c := by
  obtain ⟨a, c, e, _⟩ := (Rws.own h.1).len
  rw [List.length_map] at e
  exact ⟨a, c, e⟩
theorem OwnC.apart {t : TypeId} {w w' : World} {b1 b2 : Nat} {v u : Value} {cs : List Chg} {rows : List (List Value)} (h : OwnC w b1 v cs) (ho : OwnR w b2 t 2 u rows) (ht : (75 : TypeId) ≠ t) (hg : w.grownBy w' u.ownBlock) : OwnC w' b1 v cs :=
  OwnR.far h hg (own_own_ne h.2 ho.2 ht)
theorem BatsO.snoc {t : TypeId} {w w' : World} {base : Nat} {v v' : Value} {ys : List (Value × Int × List Chg)} (h : BatsO t w base v ys) (ht : (75 : TypeId) ≠ t) {y : Value × Int × List Chg} (hy : OwnC w base y.1 y.2.2)
    (ho : OwnR w' base t 2 v' (ys.map brw ++ [brw y])) (hg : w.grownBy w' v.ownBlock) : BatsO t w' base v' (ys ++ [y]) := by
  refine ⟨by rw [List.map_append]; exact ho, fun z hz => ?_⟩
  rcases List.mem_append.1 hz with q | q
  · exact (h.2 z q).apart h.1 ht hg
  · simp at q
    subst q
    exact hy.apart h.1 ht hg
theorem Tryz.info28 : (Tryz.prog.info? 28).map (fun i => (i.zero, i.size, i.bytes)) = some (some (.agg #[.int .i64 0, .slice none 0 0]), 2, 32) := by kernel_rfl
def pairB (g : Int × List Chg × Nat) : Int × List Chg := (g.1, g.2.1)
def NextOk (ys : List (Value × Int × List Chg)) (nx : Option Int) : Prop :=
  (ys = [] ∧ nx = none) ∨ ∃ ys0 y, ys = ys0 ++ [y] ∧ nx = some (y.2.1 + (y.2.2.length : Int)) ∧ (1 ≤ y.2.1 ∧ y.2.1 ≤ 1099511627712) ∧ (1 ≤ y.2.2.length ∧ y.2.2.length ≤ 64) ∧ (ys.length : Int) ≤ y.2.1
theorem NextOk.len {ys : List (Value × Int × List Chg)} {nx : Option Int} (h : NextOk ys nx) : ys.length ≤ 1099511627776 := by
  rcases h with ⟨rfl, _⟩ | ⟨ys0, y, rfl, _, h1, _, h2⟩
  · simp
  · omega
theorem NextOk.snoc {ys : List (Value × Int × List Chg)} {nx : Option Int} (h : NextOk ys nx) {v : Value} {s : Int} {cs : List Chg} (hc : checkOf s cs = 0) (hs : nx = none ∨ nx = some s) : NextOk (ys ++ [(v, s, cs)]) (some (s + (cs.length : Int))) := by
  obtain ⟨h1, h2, _⟩ := checkOf_ok hc
  refine .inr ⟨ys, (v, s, cs), rfl, rfl, h1, h2, ?_⟩
  rcases h with ⟨rfl, _⟩ | ⟨ys0, y, rfl, hn, h3, h4, h5⟩
  · simp; omega
  · rcases hs with e | e
    · rw [e] at hn; cases hn
    · rw [e] at hn
      injection hn with hn
      simp only [List.length_append, List.length_cons, List.length_nil] at h5 ⊢
      omega
def ReplEnd (x : Int) (t : TypeId) (b : List Int) (w : World) (e : Ending) (w' : World) : Prop :=
  ∃ ys a c, e = .returned (.tuple #[.slice a (ys : List (Value × Int × List Chg)).length c, .int .i64 ((sizeR (replOf x b) : Nat) : Int)]) ∧ BatsO t w' w.heap.size (.slice a ys.length c) ys ∧ ys.map (·.2) = (replOf x b).map pairB ∧ Below w.heap.size w w'
structure RInv (x : Int) (t : TypeId) (b : List Int) (w wr : World) (ys : List (Value × Int × List Chg)) (pre : List (Int × List Chg × Nat)) (nx : Option Int) (off f : Nat) (a : Option Addr) (c : Nat) : Prop where
  at_ : ReplAt x b pre nx off f
  nxt : NextOk ys nx
  eq : ys.map (·.2) = pre.map pairB
  own : BatsO t wr w.heap.size (.slice a ys.length c) ys
  up : Below w.heap.size w wr
theorem RInv.ends {x : Int} {t : TypeId} {b : List Int} {w wr w' : World} {ys : List (Value × Int × List Chg)} {pre : List (Int × List Chg × Nat)} {nx : Option Int} {off f : Nat} {a : Option Addr} {c : Nat} (h : RInv x t b w wr ys pre nx off f a c)
    (he : firstP x (b.drop off) = none) (hb : Below wr.heap.size wr w') : ReplEnd x t b w (.returned (.tuple #[.slice a ys.length c, .int .i64 (off : Int)])) w' := by
  obtain ⟨h1, h2⟩ := h.at_.ends he
  refine ⟨ys, a, c, by rw [h2], h.own.up hb, ?_, up_trans h.up hb⟩
  rw [h1]
  exact h.eq
theorem RInv.stops {x : Int} {t : TypeId} {b : List Int} {w wr w' : World} {ys : List (Value × Int × List Chg)} {pre : List (Int × List Chg × Nat)} {nx : Option Int} {off f : Nat} {a : Option Addr} {c : Nat} (h : RInv x t b w wr ys pre nx off f a c)
    {s : Int} {cs : List Chg} {n : Nat} (he : firstP x (b.drop off) = some (s, cs, n)) (hs : ¬ (nx = none ∨ nx = some s)) (hb : Below wr.heap.size wr w') : ReplEnd x t b w (.returned (.tuple #[.slice a ys.length c, .int .i64 (off : Int)])) w' := by
  obtain ⟨h1, h2⟩ := h.at_.stops he hs
  refine ⟨ys, a, c, by rw [h2], h.own.up hb, ?_, up_trans h.up hb⟩
  rw [h1]
  exact h.eq
theorem RInv.goes {x : Int} {t : TypeId} {b : List Int} {w wr wb w3 : World} {ys : List (Value × Int × List Chg)} {pre : List (Int × List Chg × Nat)} {nx : Option Int} {off f : Nat} {a : Option Addr} {c : Nat} (h : RInv x t b w wr ys pre nx off f a c)
    (hx : ∀ y ∈ b, 0 ≤ y ∧ y ≤ 255) {s : Int} {cs : List Chg} {n : Nat} (he : firstP x (b.drop off) = some (s, cs, n)) (hs : nx = none ∨ nx = some s) (ht : (75 : TypeId) ≠ t) (hb : Below wr.heap.size wr wb)
    {av : Value} (hy : OwnC wb w.heap.size av cs) {v3 : Value} (ho : OwnR w3 w.heap.size t 2 v3 (ys.map brw ++ [[.int .i64 s, av]])) (hg : wb.grownBy w3 (Value.slice a ys.length c).ownBlock) :
    ∃ a3 c3, v3 = .slice a3 (ys.length + 1) c3 ∧ RInv x t b w w3 (ys ++ [(av, s, cs)]) (pre ++ [(s, cs, n)]) (some (s + (cs.length : Int))) (off + n) (f - 1) a3 c3 := by
  obtain ⟨h1, h2, h3⟩ := h.at_.goes hx he hs
  have hc := (firstP_some (fun y hy => hx y (List.mem_of_mem_drop hy)) he).2.2.2.2.2.2
  have hB : BatsO t w3 w.heap.size v3 (ys ++ [(av, s, cs)]) := (h.own.up hb).snoc ht (y := (av, s, cs)) hy ho hg
  obtain ⟨a3, c3, rfl⟩ := hB.shape
  have hl : (ys ++ [(av, s, cs)]).length = ys.length + 1 := by simp
  refine ⟨a3, c3, by rw [hl], ⟨h1, h.nxt.snoc hc hs, ?_, hB, ?_⟩⟩
  · rw [List.map_append, List.map_append, h.eq]
    rfl
  · have hu := up_trans h.up hb
    exact hu.grown hg hu.size (fun k hk => ((h.own.up hb).1.2.lt k hk).1)
end Go.Proofs.YthiegmhplnbdlaaGreat
