
import Derived.Test.YthiegmhplnbdlaaGreatG22
namespace Go.Proofs.YthiegmhplnbdlaaGreat
open Go.RowKit Go.Shelf
set_option linter.unusedVariables false
set_option maxRecDepth 20000
attribute [local go_sem] Oper.semAt_some
def setB (l : List Int) (p : Nat) : Bool := !(((l.getD (p / 8) 0).toNat &&& bitN p) == 0)
def hasF (h : Int) (K n : Nat) (l : List Int) : Bool := (List.range K).all fun i => setB l (plc h i n)
theorem hasF_true {h : Int} {K n : Nat} {l : List Int} (hs : ∀ j, j < K → setB l (plc h j n) = true) : hasF h K n l = true := by
  unfold hasF
  rw [List.all_eq_true]
  intro j hj
  exact hs j (List.mem_range.1 hj)
theorem hasF_false {h : Int} {K n : Nat} {l : List Int} {j : Nat} (hj : j < K) (hs : setB l (plc h j n) = false) : hasF h K n l = false := by
  unfold hasF
  rw [List.all_eq_false]
  exact ⟨j, List.mem_range.2 hj, by rw [hs]; simp⟩
theorem plc_lt {h : Int} {i n : Nat} (hn : 1 ≤ n) : plc h i n / 8 < n := by
  have : plc h i n < 8 * n := by unfold plc; exact Nat.mod_lt _ (by omega)
  omega
theorem results_cells2 {fn : Func} (h : fn.results = #[.cell 4 4, .cell 5 29]) (tmps : Array Value) (w : World) {N M : Nat} {x y : Value} (ht : tmps.getD 4 undef = .pointer (some ⟨N, 0, none⟩)) (hu : tmps.getD 5 undef = .pointer (some ⟨M, 0, none⟩))
    (hc : w.heap[N]? = some (.cells #[x] 4)) (hd : w.heap[M]? = some (.cells #[y] 29)) : (results fn tmps).run Tryz.prog w = .ok (.tuple #[x, y]) w := by
  have c0 := blk_cell hc 0 x rfl
  have c1 := blk_cell hd 0 y rfl
  have ht' : tmps[4]?.getD undef = .pointer (some ⟨N, 0, none⟩) := by simpa using ht
  have hu' : tmps[5]?.getD undef = .pointer (some ⟨M, 0, none⟩) := by simpa using hu
  simp only [results, h]
  simp [ht', hu', go_sem, c0, c1]
theorem blk_al {w : World} {B : Nat} {o : Obj} (h : w.heap[B]? = some o) (o' : Obj) : (w.alloc o').heap[B]? = some o := blk_up h (up_alloc _ _)
theorem blk_nw (w : World) {N : Nat} (o : Obj) (h : w.heap.size = N) : (w.alloc o).heap[N]? = some o := by rw [← h]; exact blk_new w o
structure HasW (w : World) (k : Int) (v : Value) (h : Int) (r : Loop) (W : World) : Prop where
  box : W.heap[w.heap.size]? = some (.cells #[.int .i64 k, v] 57)
  res : W.heap[w.heap.size + 1]? = some (.cells #[.bool false] 4)
  err : W.heap[w.heap.size + 2]? = some (.cells #[.int .i64 0] 29)
  pbox : W.heap[w.heap.size + 4]? = some (.cells #[.int .i64 k, v] 57)
  low : W.heap[w.heap.size + 5]? = some (.cells #[.int .u64 (lowN h)] 46)
  high : W.heap[w.heap.size + 6]? = some (.cells #[.int .u64 (highN h)] 46)
  dfr : W.heap[w.heap.size + 7]? = some (.deferred (some []))
  loop : W.heap[w.heap.size + 8]? = some (.loop r)
  below : Below w.heap.size w W
theorem HasW.put {w : World} {k : Int} {v : Value} {h : Int} {r : Loop} {W : World} (H : HasW w k v h r W) (r' : Loop) : HasW w k v h r' (W.putObj (w.heap.size + 8) (.loop r')) := by
  have g := grownBy_putObj' W (w.heap.size + 8) (.loop r')
  exact ⟨blk_grown H.box g (by simp), blk_grown H.res g (by simp), blk_grown H.err g (by simp), blk_grown H.pbox g (by simp), blk_grown H.low g (by simp), blk_grown H.high g (by simp), blk_grown H.dfr g (by simp), World.putObj_heap_same (blk_lt H.loop), H.below.grown g H.below.size (fun j hj => by simp at hj; omega)⟩
theorem HasW.res2 {w : World} {k : Int} {v : Value} {h : Int} {r : Loop} {W : World} (H : HasW w k v h r W) (x : Bool) (y : Int) :
    ((W.setCell ⟨w.heap.size + 1, 0, none⟩ (.bool x)).setCell ⟨w.heap.size + 2, 0, none⟩ (.int .i64 y)).heap[w.heap.size + 1]? = some (.cells #[.bool x] 4) ∧
    ((W.setCell ⟨w.heap.size + 1, 0, none⟩ (.bool x)).setCell ⟨w.heap.size + 2, 0, none⟩ (.int .i64 y)).heap[w.heap.size + 2]? = some (.cells #[.int .i64 y] 29) :=
  ⟨blk_grown (blk_set H.res 0 _) (grown_set _ _ _) (by simp), blk_set (blk_grown H.err (grown_set _ _ _) (by simp)) 0 _⟩
theorem HasW.set {w : World} {k : Int} {v : Value} {h : Int} {r : Loop} {W : World} (H : HasW w k v h r W) :
    HasW w k v h r ((W.setCell ⟨w.heap.size + 1, 0, none⟩ (.bool false)).setCell ⟨w.heap.size + 2, 0, none⟩ (.int .i64 0)) := by
  have g1 := grown_set W ⟨w.heap.size + 1, 0, none⟩ (.bool false)
  have g2 := grown_set (W.setCell ⟨w.heap.size + 1, 0, none⟩ (.bool false)) ⟨w.heap.size + 2, 0, none⟩ (.int .i64 0)
  have q := H.res2 false 0
  exact ⟨blk_grown (blk_grown H.box g1 (by simp)) g2 (by simp), q.1, q.2, blk_grown (blk_grown H.pbox g1 (by simp)) g2 (by simp), blk_grown (blk_grown H.low g1 (by simp)) g2 (by simp), blk_grown (blk_grown H.high g1 (by simp)) g2 (by simp), blk_grown (blk_grown H.dfr g1 (by simp)) g2 (by simp), blk_grown (blk_grown H.loop g1 (by simp)) g2 (by simp),
    (H.below.grown g1 H.below.size (fun j hj => by simp at hj; omega)).grown g2 (Nat.le_trans H.below.size g1.size) (fun j hj => by simp at hj; omega)⟩
set_option maxHeartbeats 2000000 in
theorem has_any (key : List Int) (hx : OctL key) (hm : key.length ≤ 140737488355328) (k : Int) (l : List Int) (a : Option Addr) (c : Nat) (w : World) (hv : Octs w (.slice a l.length c) l) :
    Calls Tryz.prog 21 #[.agg #[.int .i64 k, .slice a l.length c], .string (strOfNums key)] w fun e w' => e = .returned (.tuple #[.bool (mayB k l.length && hasF (hashL key) k.toNat l.length l), .int .i64 (chkE k l.length)]) ∧ Below w.heap.size w w' := by
  obtain ⟨n, hn⟩ : ∃ n, n = l.length := ⟨_, rfl⟩
  rw [← hn] at hv ⊢
  have HV : Hid (Octs w (.slice a n c) l) := hv
  have HL : Hid (l.length = n) := hn.symm
  clear hv hn
  have HM : Hid (∀ w : World, Calls Tryz.prog 48 #[.agg #[.int .i64 k, .slice a n c]] w fun e w' => e = .returned (.bool (mayB k n)) ∧ w' = w.alloc (.cells #[.int .i64 k, .slice a n c] 57)) := fun w => mayBe_any k a n c w
  have HP : Hid (∀ w : World, Calls Tryz.prog 49 #[.agg #[.int .i64 k, .slice a n c], .string (strOfNums key)] w fun e w' => e = .returned (.func (.func 79) #[] #[.pointer (some ⟨w.heap.size, 0, none⟩), .pointer (some ⟨w.heap.size + 1, 0, none⟩), .pointer (some ⟨w.heap.size + 2, 0, none⟩)]) ∧
      w' = ((w.alloc (.cells #[.int .i64 k, .slice a n c] 57)).alloc (.cells #[.int .u64 (lowN (hashL key))] 46)).alloc (.cells #[.int .u64 (highN (hashL key))] 46)) := fun w => places_any key hx hm k a n c w
  obtain ⟨z0, z1⟩ := hash_u64 key
  generalize hashL key = h at *
  have HE : Hid (chkE k n = if mayB k n then 0 else 9) := rfl
  refine (callsIn_wide (n := 9)).1 ?_
  refine callsIn_of_wp_marks Tryz.func21 rfl trivial ?_ rfl
  simp only [Tryz.ntmps21, List.size_toArray, List.length_cons, List.length_nil, Nat.reduceAdd, Nat.reduceSub, Array.replicate_succ, Array.replicate_zero, List.push_toArray, List.append_toArray, List.nil_append, List.cons_append]
  gi_wp2
  refine ⟨trivial, ?_⟩
  refine (callsIn_wide.2 (HM.out _)).mono ?_
  rintro e w1 ⟨rfl, rfl⟩
  cases hmay : mayB k n
  · rw [hmay] at HE
    gi_wp2
    refine ⟨_, results_cells2 (x := .bool false) (y := .int .i64 9) rfl _ _ rfl rfl ?c ?d, ?_⟩
    case c => exact blk_al (blk_al (blk_nw _ _ (by simp)) _) _
    case d => exact blk_al (blk_nw _ _ (by simp)) _
    refine ⟨?_, up_al (up_al (up_al (up_alloc _ _) _) _) _⟩
    have := HE.out
    simp at this
    rw [this, hmay]
    rfl
  · rw [hmay] at HE
    gi_wp2
    refine ⟨trivial, ?_⟩
    refine (callsIn_wide.2 (HP.out _)).mono ?_
    rintro e w1 ⟨rfl, rfl⟩
    gi_wp2
    have hk1 : 1 ≤ k ∧ k ≤ 8 ∧ 1 ≤ n ∧ n ≤ 8192 := by
      unfold mayB at hmay
      simp at hmay
      exact hmay
    obtain ⟨K, rfl⟩ : ∃ K : Nat, k = (K : Int) := ⟨k.toNat, by omega⟩
    obtain ⟨w3, hw3⟩ : ∃ w3 : World, w3 = ((((((w.alloc (.cells #[.int .i64 K, .slice a n c] 57)).alloc (.cells #[.bool false] 4)).alloc (.cells #[.int .i64 0] 29)).alloc (.cells #[.int .i64 K, .slice a n c] 57)).alloc (.cells #[.int .i64 K, .slice a n c] 57)).alloc (.cells #[.int .u64 (lowN h)] 46)).alloc (.cells #[.int .u64 (highN h)] 46) := ⟨_, rfl⟩
    have d3 : w3.heap.size = w.heap.size + 7 := by rw [hw3]; simp
    have c0 : w3.heap[w.heap.size]? = some (.cells #[.int .i64 K, .slice a n c] 57) := by rw [hw3]; exact blk_al (blk_al (blk_al (blk_al (blk_al (blk_al (blk_nw _ _ (by simp)) _) _) _) _) _) _
    have c1 : w3.heap[w.heap.size + 1]? = some (.cells #[.bool false] 4) := by rw [hw3]; exact blk_al (blk_al (blk_al (blk_al (blk_al (blk_nw _ _ (by simp)) _) _) _) _) _
    have c2 : w3.heap[w.heap.size + 2]? = some (.cells #[.int .i64 0] 29) := by rw [hw3]; exact blk_al (blk_al (blk_al (blk_al (blk_nw _ _ (by simp)) _) _) _) _
    have c4 : w3.heap[w.heap.size + 4]? = some (.cells #[.int .i64 K, .slice a n c] 57) := by rw [hw3]; exact blk_al (blk_al (blk_nw _ _ (by simp)) _) _
    have c5 : w3.heap[w.heap.size + 5]? = some (.cells #[.int .u64 (lowN h)] 46) := by rw [hw3]; exact blk_al (blk_nw _ _ (by simp)) _
    have c6 : w3.heap[w.heap.size + 6]? = some (.cells #[.int .u64 (highN h)] 46) := by rw [hw3]; exact blk_nw _ _ (by simp)
    have u3 : Below w.heap.size w w3 := by rw [hw3]; exact up_al (up_al (up_al (up_al (up_al (up_al (up_alloc _ _) _) _) _) _) _) _
    rw [← hw3]
    clear hw3
    have eq4 : (w.heap.size + 1 + 1 + 1 + 1) = w.heap.size + 4 := by omega
    refine range_law rfl (enters_of Tryz.func79 (by kernel_rfl) rfl) ?_
    intro r r1 r2 r3 r4 r5 r6
    rw [d3]
    have J0 : HasW w K (.slice a n c) h r ((w3.alloc (.deferred (some []))).alloc (.loop r)) := by
      refine ⟨blk_al (blk_al c0 _) _, blk_al (blk_al c1 _) _, blk_al (blk_al c2 _) _, blk_al (blk_al c4 _) _, blk_al (blk_al c5 _) _, blk_al (blk_al c6 _) _, blk_al (blk_nw _ _ (by omega)) _, blk_nw _ _ (by simp; omega), up_al (up_al u3 _) _⟩
    generalize (w3.alloc (.deferred (some []))).alloc (.loop r) = W1 at *
    obtain ⟨hk1, hk2, hn1, hn2⟩ := hk1
    obtain ⟨rd, hrd⟩ : ∃ rd : Loop, rd = { r with state := .done, pending := some .ret } := ⟨_, rfl⟩
    have rd1 : rd.state = .done := by rw [hrd]
    have rd2 : rd.pending = some .ret := by rw [hrd]
    have HRD : Hid (rd = { r with state := .done, pending := some .ret }) := hrd
    clear hrd
    refine (iter_in 8 (w.heap.size + 8) (w.heap.size + 4) K (by omega) h z0 z1 a n c hn1 hn2
      (fun i W => (∀ j, j < i → setB l (plc h j n) = true) ∧ HasW w K (.slice a n c) h r W)
      (fun W => (∃ j, j < K ∧ setB l (plc h j n) = false) ∧ HasW w K (.slice a n c) h rd W) W1 ?hY ?hK ⟨fun j hj => absurd hj (by omega), J0⟩).mono ?post
    case hK =>
      rintro i W' ⟨_, H⟩
      exact ⟨blk_cell H.pbox 0 _ rfl, blk_cell H.pbox 1 _ rfl, blk_cell H.low 0 _ rfl, blk_cell H.high 0 _ rfl⟩
    case post =>
      rintro e W' ⟨hv, hor⟩
      refine ⟨hv, ?_⟩
      rcases hor with ⟨hs, H⟩ | ⟨⟨j, hj, hs⟩, H⟩
      · refine ⟨r, H.loop, (by rw [r1]; simp), .inl ⟨r2, ?_⟩⟩
        have H2 := H.put { r with state := .exhausted }
        have HH : Hid (HasW w K (.slice a n c) h { r with state := .exhausted } (W'.putObj (w.heap.size + 8) (.loop { r with state := .exhausted }))) := H2
        generalize W'.putObj (w.heap.size + 8) (.loop { r with state := .exhausted }) = W2 at *
        have q1 := blk_cell H2.res 0 _ rfl
        have q2 := blk_cell H2.err 0 _ rfl
        have q3 := blk_frozen H2.res 0
        have q4 := blk_frozen H2.err 0
        have HF : Hid (hasF h K n l = true) := hasF_true hs
        clear H H2 J0 hs c0 c1 c2 c4 c5 c6 u3 r1 r2 r3 r4 r5 r6 rd1 rd2
        gi_wp2
        have q := HH.out.res2 true 0
        have hdf := blk_grown (blk_grown HH.out.dfr (grown_set W2 ⟨w.heap.size + 1, 0, none⟩ (.bool true)) (by simp)) (grown_set _ ⟨w.heap.size + 2, 0, none⟩ (.int .i64 0)) (by simp)
        have ub : Below w.heap.size w ((W2.setCell ⟨w.heap.size + 1, 0, none⟩ (.bool true)).setCell ⟨w.heap.size + 2, 0, none⟩ (.int .i64 0)) := (HH.out.below.grown (grown_set _ _ _) HH.out.below.size (fun j hj => by simp at hj; omega)).grown (grown_set _ _ _) (Nat.le_trans HH.out.below.size (grown_set _ _ _).size) (fun j hj => by simp at hj; omega)
        generalize (W2.setCell ⟨w.heap.size + 1, 0, none⟩ (.bool true)).setCell ⟨w.heap.size + 2, 0, none⟩ (.int .i64 0) = W3 at *
        refine ⟨by simp, .inl ⟨_, _, rfl, run_takeDeferred (ds := []) hdf, ?_⟩⟩
        have g3 := grownBy_putObj' W3 (w.heap.size + 7) (.deferred none)
        refine ⟨_, results_cells2 (x := .bool true) (y := .int .i64 0) rfl _ _ rfl rfl (blk_grown q.1 g3 (by simp)) (blk_grown q.2 g3 (by simp)), ?_, ub.grown g3 ub.size (fun j hj => by simp at hj; omega)⟩
        rw [HF.out]
        have := HE.out
        simp at this
        rw [this]
      · refine ⟨rd, H.loop, by rw [rd1]; simp, .inr ⟨rd2, ?_⟩⟩
        have H2 := H.put { rd with state := .exhausted }
        have HF : Hid (hasF h K n l = false) := hasF_false hj hs
        generalize W'.putObj (w.heap.size + 8) (.loop { rd with state := .exhausted }) = W2 at *
        refine ⟨by simp, .inl ⟨_, _, rfl, run_takeDeferred (ds := []) H2.dfr, ?_⟩⟩
        have g3 := grownBy_putObj' W2 (w.heap.size + 7) (.deferred none)
        refine ⟨_, results_cells2 (x := .bool false) (y := .int .i64 0) rfl _ _ rfl rfl (blk_grown H2.res g3 (by simp)) (blk_grown H2.err g3 (by simp)), ?_, H2.below.grown g3 H2.below.size (fun j hj => by simp at hj; omega)⟩
        rw [hmay]
        have := HE.out
        simp at this
        rw [this]
        simp only [Int.toNat_natCast, Bool.true_and]
        rw [HF.out]
    case hY =>
      rintro i W0 hi ⟨hs, H⟩
      have hpl : plc h i n / 8 < n := plc_lt hn1
      have hSB : setB l (plc h i n) = !(((l.getD (plc h i n / 8) 0).toNat &&& bitN (plc h i n)) == 0) := rfl
      have hbl := bit_le (plc h i n)
      obtain ⟨p, hp⟩ : ∃ p, plc h i n = p := ⟨_, rfl⟩
      have HPI : Hid (plc h i n = p) := hp
      rw [hp] at hpl hSB hbl ⊢
      clear hp
      generalize bitN p = bt at *
      have HSB0 : Hid (setB l p = !(((l.getD (p / 8) 0).toNat &&& bt) == 0)) := hSB
      clear hSB
      have hpl' : ((p / 8 : Nat) : Int) < (n : Int) := by omega
      generalize p / 8 = o at *
      refine ⟨r.fn, _, r.assign, r.body, run_yield H.loop (by rw [r4]; rfl), roundIn_of_wpIn trivial ?_⟩
      rw [r3, r4, r5, r6]
      gi_wp2
      refine ⟨_, run_beginRound H.loop r1, ?_⟩
      have H2 := H.put { r with state := .busy }
      generalize W0.putObj (w.heap.size + 8) (.loop { r with state := .busy }) = Wb at *
      have HB : Hid (HasW w K (.slice a n c) h { r with state := .busy } Wb) := H2
      have q1 := blk_cell H2.res 0 _ rfl
      have q2 := blk_cell H2.err 0 _ rfl
      have q3 := blk_frozen H2.res 0
      have q4 := blk_frozen H2.err 0
      have q5 := blk_cell H2.box 1 _ rfl
      have hV2 : Octs Wb (.slice a n c) l := HV.out.up H2.below
      obtain ⟨b, off, cap, e, hcap, hmx, hcell⟩ := hV2.at o (by rw [HL.out]; exact hpl)
      simp at e
      obtain ⟨x0, x1⟩ := hV2.oct o (by rw [HL.out]; exact hpl)
      obtain ⟨rfl, hh, rfl⟩ := e
      clear hh
      generalize l.getD o 0 = x at *
      have ea : bits .and .u8 x (bt : Int) = ((x.toNat &&& bt : Nat) : Int) := by
        have := u8_and x (bt : Int) x0 (by omega) (by omega) (by omega)
        rw [this]
        rfl
      have HR : Hid (r.state = .ready ∧ r.pending = none) := ⟨r1, r2⟩
      have HS : Hid (∀ j, j < i → setB l (plc h j n) = true) := hs
      clear H H2 J0 c0 c1 c2 c4 c5 c6 u3 hV2 r1 r2 r3 r4 r5 r6 rd1 rd2 hs
      generalize x.toNat &&& bt = y at *
      by_cases hy : y = 0
      · subst hy
        gi_wp2
        have HB2 := HB.out.set
        have hend := run_endRound (P := Tryz.prog) (some .ret) HB2.loop
        have hrr : ({ ({ r with state := .busy } : Loop) with state := if (some Code.ret).isNone then LoopState.ready else LoopState.done, pending := some .ret } : Loop) = rd := by
          rw [HRD.out]
          rfl
        rw [hrr] at hend
        refine ⟨_, _, hend, .inr ⟨rfl, ⟨i, hi, ?_⟩, HB2.put rd⟩⟩
        rw [HPI.out, HSB0.out]
        rfl
      · have hy' : ((y : Int) == 0) = false := by simp; omega
        gi_wp2
        have hend := run_endRound (P := Tryz.prog) none HB.out.loop
        have hrr : ({ ({ r with state := .busy } : Loop) with state := if (none : Option Code).isNone then LoopState.ready else LoopState.done, pending := none } : Loop) = r := by
          obtain ⟨r1, r2⟩ := HR.out
          cases r
          simp at r1 r2
          subst r1 r2
          rfl
        rw [hrr] at hend
        refine ⟨_, _, hend, .inl ⟨rfl, fun j hj => ?_, HB.out.put r⟩⟩
        by_cases hji : j = i
        · subst hji
          rw [HPI.out, HSB0.out]
          simp [hy]
        · exact HS.out j (by omega)
end Go.Proofs.YthiegmhplnbdlaaGreat
