/- The program's field. -/
import Derived.Test.YtpjmieiajhhbaaaDoorDRange
namespace Go.Proofs.YtpjmieiajhhbaaaDoor
open Go.RowKit Go.Shelf
set_option linter.unusedVariables false
set_option linter.unusedSimpArgs false
attribute [local go_sem] Oper.semAt_some

/-- A field's items, by its place, put together. -/
def accW (i : Nat) (L : List (List Int)) : Nat := (L.map (itemW i)).foldl (· ||| ·) 0
def fieldW (i : Nat) (l : List Int) : Nat := if (splitN l 44).any (fun x => itemW i x == 0) then 0 else accW i (splitN l 44)
theorem accW_snoc (i : Nat) (L : List (List Int)) (x : List Int) : accW i (L ++ [x]) = accW i L ||| itemW i x := by
  unfold accW
  rw [List.map_append, List.foldl_append]
  rfl
theorem accW_take (i : Nat) (L : List (List Int)) (k : Nat) (h : k < L.length) : accW i (L.take (k + 1)) = accW i (L.take k) ||| itemW i (nthL L k) := by
  rw [← accW_snoc]
  congr 1
  rw [List.take_add_one]
  simp [nthL, List.getD, h]
theorem itemW_lt (i : Nat) (l : List Int) : itemW i l < 18446744073709551616 := by
  unfold itemW foldN
  split
  · exact Nat.lt_trans (weekN_lt _) (by decide)
  · exact itemN_lt _ _ _
theorem accW_lt (i : Nat) (L : List (List Int)) : accW i L < 18446744073709551616 := by
  unfold accW
  refine foldl_or_lt _ _ (by decide) fun x hx => ?_
  obtain ⟨y, _, rfl⟩ := List.mem_map.1 hx
  exact itemW_lt _ _
theorem field_bad {i : Nat} {l : List Int} {j : Nat} (hj : j < (splitN l 44).length) (h : itemW i (nthL (splitN l 44) j) = 0) : fieldW i l = 0 := by
  unfold fieldW
  rw [if_pos]
  rw [List.any_eq_true]
  refine ⟨nthL (splitN l 44) j, by simp [nthL, List.getD, hj], by rw [h]; rfl⟩
theorem field_good {i : Nat} {l : List Int} (h : ∀ j, j < (splitN l 44).length → itemW i (nthL (splitN l 44) j) ≠ 0) : fieldW i l = accW i (splitN l 44) ∧ fieldW i l ≠ 0 := by
  have e : fieldW i l = accW i (splitN l 44) := by
    unfold fieldW
    rw [if_neg]
    rw [List.any_eq_true]
    rintro ⟨x, hx, hz⟩
    obtain ⟨j, hj, rfl⟩ := List.mem_iff_getElem.1 hx
    have := h j hj
    unfold nthL at this
    rw [List.getD_eq_getElem?_getD, List.getElem?_eq_getElem hj] at this
    exact this (by simpa using hz)
  refine ⟨e, ?_⟩
  rw [e]
  have ne := splitN_ne l 44
  have h0 := h 0 (List.length_pos_iff.2 ne)
  generalize splitN l 44 = L at *
  cases L with
  | nil => exact absurd rfl ne
  | cons a t =>
    intro hz
    have h0 : itemW i a ≠ 0 := h0
    apply h0
    have : ∀ (m : List Nat) (c : Nat), m.foldl (· ||| ·) c = 0 → c = 0 := by
      intro m
      induction m with
      | nil => intro c h; exact h
      | cons x m ih =>
        intro c h
        have := ih _ h
        exact (Nat.or_eq_zero_iff.1 this).1
    have q : ((t.map (itemW i)).foldl (· ||| ·) (0 ||| itemW i a)) = 0 := hz
    have := this _ _ q
    simpa using this
theorem results_cells2 {fn : Func} (h : fn.results = #[.cell 4 56, .cell 5 4]) (tmps : Array Value) (w : World) {N M : Nat} {x y : Value} (ht : tmps.getD 4 undef = .pointer (some ⟨N, 0, none⟩)) (hu : tmps.getD 5 undef = .pointer (some ⟨M, 0, none⟩))
    (hc : w.heap[N]? = some (.cells #[x] 56)) (hd : w.heap[M]? = some (.cells #[y] 4)) : (results fn tmps).run Tryd.prog w = .ok (.tuple #[x, y]) w := by
  have c0 := blk_cell hc 0 x rfl
  have c1 := blk_cell hd 0 y rfl
  have ht' : tmps[4]?.getD undef = .pointer (some ⟨N, 0, none⟩) := by simpa using ht
  have hu' : tmps[5]?.getD undef = .pointer (some ⟨M, 0, none⟩) := by simpa using hu
  simp only [results, h]
  simp [ht', hu', go_sem, c0, c1]
theorem blk_al {w : World} {B : Nat} {o : Obj} (h : w.heap[B]? = some o) (o' : Obj) : (w.alloc o').heap[B]? = some o := blk_up h (up_alloc _ _)
theorem blk_nw (w : World) {N : Nat} (o : Obj) (h : w.heap.size = N) : (w.alloc o).heap[N]? = some o := by rw [← h]; exact blk_new w o
/-- What lies behind field's loop. -/
structure FldW (w : World) (i : Int) (l : List Int) (s : Nat) (r : Loop) (W : World) : Prop where
  box : W.heap[w.heap.size]? = some (.cells #[.int .i64 i] 3)
  res : W.heap[w.heap.size + 1]? = some (.cells #[.int .u64 0] 56)
  okc : W.heap[w.heap.size + 2]? = some (.cells #[.bool false] 4)
  acc : W.heap[w.heap.size + 3]? = some (.cells #[.int .u64 (s : Int)] 56)
  txt : W.heap[w.heap.size + 4]? = some (.cells #[.string (strOfNums l)] 9)
  dfr : W.heap[w.heap.size + 5]? = some (.deferred (some []))
  loop : W.heap[w.heap.size + 6]? = some (.loop r)
  below : Below w.heap.size w W
theorem FldW.up {w : World} {i : Int} {l : List Int} {s : Nat} {r : Loop} {W W' : World} (H : FldW w i l s r W) (hb : Below W.heap.size W W') : FldW w i l s r W' :=
  ⟨blk_up H.box hb, blk_up H.res hb, blk_up H.okc hb, blk_up H.acc hb, blk_up H.txt hb, blk_up H.dfr hb, blk_up H.loop hb, up_trans H.below hb⟩
theorem FldW.put {w : World} {i : Int} {l : List Int} {s : Nat} {r : Loop} {W : World} (H : FldW w i l s r W) (r' : Loop) : FldW w i l s r' (W.putObj (w.heap.size + 6) (.loop r')) := by
  have g := grownBy_putObj' W (w.heap.size + 6) (.loop r')
  exact ⟨blk_grown H.box g (by simp), blk_grown H.res g (by simp), blk_grown H.okc g (by simp), blk_grown H.acc g (by simp), blk_grown H.txt g (by simp), blk_grown H.dfr g (by simp), World.putObj_heap_same (blk_lt H.loop), H.below.grown g H.below.size (fun j hj => by simp at hj; omega)⟩
theorem FldW.add {w : World} {i : Int} {l : List Int} {s : Nat} {r : Loop} {W : World} (H : FldW w i l s r W) (t : Nat) : FldW w i l t r (W.setCell ⟨w.heap.size + 3, 0, none⟩ (.int .u64 (t : Int))) := by
  have g := grown_set W ⟨w.heap.size + 3, 0, none⟩ (.int .u64 (t : Int))
  exact ⟨blk_grown H.box g (by simp), blk_grown H.res g (by simp), blk_grown H.okc g (by simp), blk_set H.acc 0 _, blk_grown H.txt g (by simp), blk_grown H.dfr g (by simp), blk_grown H.loop g (by simp), H.below.grown g H.below.size (fun j hj => by simp at hj; omega)⟩
/-- The two results are written. -/
theorem FldW.res2 {w : World} {i : Int} {l : List Int} {s : Nat} {r : Loop} {W : World} (H : FldW w i l s r W) (x : Int) (y : Bool) :
    ((W.setCell ⟨w.heap.size + 1, 0, none⟩ (.int .u64 x)).setCell ⟨w.heap.size + 2, 0, none⟩ (.bool y)).heap[w.heap.size + 1]? = some (.cells #[.int .u64 x] 56) ∧
    ((W.setCell ⟨w.heap.size + 1, 0, none⟩ (.int .u64 x)).setCell ⟨w.heap.size + 2, 0, none⟩ (.bool y)).heap[w.heap.size + 2]? = some (.cells #[.bool y] 4) :=
  ⟨blk_grown (blk_set H.res 0 _) (grown_set _ _ _) (by simp), blk_set (blk_grown H.okc (grown_set _ _ _) (by simp)) 0 _⟩
theorem FldW.set {w : World} {i : Int} {l : List Int} {s : Nat} {r : Loop} {W : World} (H : FldW w i l s r W) :
    FldW w i l s r ((W.setCell ⟨w.heap.size + 1, 0, none⟩ (.int .u64 0)).setCell ⟨w.heap.size + 2, 0, none⟩ (.bool false)) := by
  have g1 := grown_set W ⟨w.heap.size + 1, 0, none⟩ (.int .u64 0)
  have g2 := grown_set (W.setCell ⟨w.heap.size + 1, 0, none⟩ (.int .u64 0)) ⟨w.heap.size + 2, 0, none⟩ (.bool false)
  have q := H.res2 0 false
  exact ⟨blk_grown (blk_grown H.box g1 (by simp)) g2 (by simp), q.1, q.2, blk_grown (blk_grown H.acc g1 (by simp)) g2 (by simp), blk_grown (blk_grown H.txt g1 (by simp)) g2 (by simp), blk_grown (blk_grown H.dfr g1 (by simp)) g2 (by simp), blk_grown (blk_grown H.loop g1 (by simp)) g2 (by simp),
    (H.below.grown g1 H.below.size (fun j hj => by simp at hj; omega)).grown g2 (Nat.le_trans H.below.size g1.size) (fun j hj => by simp at hj; omega)⟩
set_option maxHeartbeats 1000000 in
set_option maxRecDepth 20000 in
theorem field_any (i : Nat) (hi : i < 5) (l : List Int) (hx : ∀ x ∈ l, 0 ≤ x ∧ x ≤ 255) (hm : l.length ≤ 1000000) (w : World) (he : Env w) :
    Calls Tryd.prog 78 #[.int .i64 (i : Int), .string (strOfNums l)] w fun e w' => e = .returned (.tuple #[.int .u64 (fieldW i l : Nat), .bool (!(fieldW i l == 0))]) ∧ Below w.heap.size w w' := by
  have HI : Hid (∀ w', Calls Tryd.prog 88 #[.string (strOfNums l)] w' fun e w'' => e = .returned (.func (.func 100) #[] #[.pointer (some ⟨w'.heap.size, 0, none⟩)]) ∧ w'' = w'.alloc (.cells #[.string (strOfNums l)] 9)) := fun w' => items_any l w'
  have HM : Hid (∀ k, k < (splitN l 44).length → ∀ w', Below w.heap.size w w' → Calls Tryd.prog 89 #[.int .i64 (i : Int), .string (strOfNums (nthL (splitN l 44) k))] w' fun e w'' => e = .returned (.tuple #[.int .u64 (itemW i (nthL (splitN l 44) k) : Nat), .bool (!(itemW i (nthL (splitN l 44) k) == 0))]) ∧ Below w'.heap.size w' w'') := by
    intro k hk w' hb
    have sub : ∀ (l : List Int) (v : List Int), v ∈ splitN l 44 → (∀ x ∈ v, x ∈ l) ∧ v.length ≤ l.length := by
      intro l
      induction l with
      | nil =>
        intro v hv
        cases List.mem_singleton.1 hv
        exact ⟨fun x h => h, Nat.le_refl _⟩
      | cons c l ih =>
        intro v hv
        rw [splitN_cons] at hv
        split at hv
        · rcases List.mem_cons.1 hv with rfl | hv
          · exact ⟨fun x h => (by cases h), by simp⟩
          · exact ⟨fun x h => List.mem_cons_of_mem _ ((ih v hv).1 x h), by have := (ih v hv).2; simp; omega⟩
        · split at hv
          · cases List.mem_singleton.1 hv
            exact ⟨fun x h => (by cases List.mem_singleton.1 h; exact List.mem_cons_self), by simp⟩
          · rename_i h t e
            rcases List.mem_cons.1 hv with rfl | hv
            · have := ih h (by rw [e]; exact List.mem_cons_self)
              refine ⟨fun x hx => ?_, by have := this.2; simp; omega⟩
              rcases List.mem_cons.1 hx with rfl | hx
              · exact List.mem_cons_self
              · exact List.mem_cons_of_mem _ (this.1 x hx)
            · have := ih v (by rw [e]; exact List.mem_cons_of_mem _ hv)
              exact ⟨fun x h => List.mem_cons_of_mem _ (this.1 x h), by have := this.2; simp; omega⟩
    have mem : nthL (splitN l 44) k ∈ splitN l 44 := by simp [nthL, List.getD, hk]
    have := sub l _ mem
    exact meant_any i hi _ (fun x h => hx x (this.1 x h)) (by omega) w' (he.up hb)
  have HL := hid (fun k h => accW_take i (splitN l 44) k h)
  have IL := hid (fun x => itemW_lt i x)
  have AL := hid (fun k => accW_lt i ((splitN l 44).take k))
  have FB := hid (fun j hj h => field_bad (i := i) (l := l) (j := j) hj h)
  have FG := hid (fun h => field_good (i := i) (l := l) h)
  have A0 : Hid (accW i ((splitN l 44).take 0) = 0) := rfl
  have AN : Hid (accW i ((splitN l 44).take (splitN l 44).length) = accW i (splitN l 44)) := by unfold Hid; rw [List.take_length]
  have HX := hid hx
  clear hx he
  refine (callsIn_wide (n := 9)).1 ?_
  refine callsIn_of_wp_marks Tryd.func78 rfl trivial ?_ rfl
  simp only [Tryd.ntmps78, List.size_toArray, List.length_cons, List.length_nil, Nat.reduceAdd, Nat.reduceSub, Array.replicate_succ, Array.replicate_zero, List.push_toArray, List.append_toArray, List.nil_append, List.cons_append]
  gi_wp2
  refine ⟨trivial, ?_⟩
  refine (callsIn_wide.2 (HI.out _)).mono ?_
  rintro e w1 ⟨rfl, rfl⟩
  gi_wp2
  obtain ⟨w3, hw3⟩ : ∃ w3 : World, w3 = ((((w.alloc (.cells #[.int .i64 (i : Int)] 3)).alloc (.cells #[.int .u64 0] 56)).alloc (.cells #[.bool false] 4)).alloc (.cells #[.int .u64 0] 56)).alloc (.cells #[.string (strOfNums l)] 9) := ⟨_, rfl⟩
  have d3 : w3.heap.size = w.heap.size + 5 := by rw [hw3]; simp
  have c0 : w3.heap[w.heap.size]? = some (.cells #[.int .i64 (i : Int)] 3) := by rw [hw3]; exact blk_al (blk_al (blk_al (blk_al (blk_nw _ _ (by simp)) _) _) _) _
  have c1 : w3.heap[w.heap.size + 1]? = some (.cells #[.int .u64 0] 56) := by rw [hw3]; exact blk_al (blk_al (blk_al (blk_nw _ _ (by simp)) _) _) _
  have c2 : w3.heap[w.heap.size + 2]? = some (.cells #[.bool false] 4) := by rw [hw3]; exact blk_al (blk_al (blk_nw _ _ (by simp)) _) _
  have c3 : w3.heap[w.heap.size + 3]? = some (.cells #[.int .u64 0] 56) := by rw [hw3]; exact blk_al (blk_nw _ _ (by simp)) _
  have c4 : w3.heap[w.heap.size + 4]? = some (.cells #[.string (strOfNums l)] 9) := by rw [hw3]; exact blk_nw _ _ (by simp)
  have u3 : Below w.heap.size w w3 := by rw [hw3]; exact up_al (up_al (up_al (up_al (up_alloc _ _) _) _) _) _
  rw [← hw3]
  clear hw3
  refine range_law rfl (enters_of Tryd.func100 (by kernel_rfl) rfl) ?_
  intro r r1 r2 r3 r4 r5 r6
  rw [d3]
  have J0 : FldW w i l 0 r ((w3.alloc (.deferred (some []))).alloc (.loop r)) := by
    refine ⟨blk_al (blk_al c0 _) _, blk_al (blk_al c1 _) _, blk_al (blk_al c2 _) _, blk_al (blk_al c3 _) _, blk_al (blk_al c4 _) _, blk_al (blk_nw _ _ (by omega)) _, blk_nw _ _ (by simp; omega), up_al (up_al u3 _) _⟩
  generalize (w3.alloc (.deferred (some []))).alloc (.loop r) = W1 at *
  obtain ⟨rd, hrd⟩ : ∃ rd : Loop, rd = { r with state := .done, pending := some .ret } := ⟨_, rfl⟩
  have rd1 : rd.state = .done := by rw [hrd]
  have rd2 : rd.pending = some .ret := by rw [hrd]
  have HRD : Hid (rd = { r with state := .done, pending := some .ret }) := hrd
  clear hrd
  refine (iter_in 8 (w.heap.size + 6) (w.heap.size + 4) l HX.out hm
    (fun k W => (∀ j, j < k → itemW i (nthL (splitN l 44) j) ≠ 0) ∧ FldW w i l (accW i ((splitN l 44).take k)) r W)
    (fun W => (∃ j, j < (splitN l 44).length ∧ itemW i (nthL (splitN l 44) j) = 0) ∧ ∃ s, FldW w i l s rd W) W1 ?hY ?hU ?hK ⟨fun j hj => absurd hj (by omega), by rw [A0.out]; exact J0⟩).mono ?post
  case hU => exact fun k W W' h hb => ⟨h.1, h.2.up hb⟩
  case hK =>
    rintro k W' ⟨_, H⟩
    exact blk_cell H.txt 0 _ rfl
  case post =>
    rintro e W' ⟨hv, hor⟩
    refine ⟨hv, ?_⟩
    rcases hor with ⟨hs, H⟩ | ⟨⟨j, hj, hs⟩, s, H⟩
    · refine ⟨r, H.loop, (by rw [r1]; simp), .inl ⟨r2, ?_⟩⟩
      rw [AN.out] at H
      obtain ⟨g1, g2⟩ := FG.out hs
      have H2 := H.put { r with state := .exhausted }
      have HF : Hid (fieldW i l = accW i (splitN l 44)) := g1
      have HF0 : Hid ((!(fieldW i l == 0)) = true) := by unfold Hid; simpa using g2
      have HH : Hid (FldW w i l (accW i (splitN l 44)) { r with state := .exhausted } (W'.putObj (w.heap.size + 6) (.loop { r with state := .exhausted }))) := H2
      generalize W'.putObj (w.heap.size + 6) (.loop { r with state := .exhausted }) = W2 at *
      clear g1 g2
      generalize accW i (splitN l 44) = A at *
      have q1 := blk_cell H2.res 0 _ rfl
      have q2 := blk_cell H2.okc 0 _ rfl
      have q3 := blk_frozen H2.res 0
      have q4 := blk_frozen H2.okc 0
      have q5 := blk_cell H2.acc 0 _ rfl
      clear H H2 J0 hs c0 c1 c2 c3 c4 u3 r1 r2 r3 r4 r5 r6 rd1 rd2
      gi_wp2
      have q := HH.out.res2 (A : Int) true
      have hdf := blk_grown (blk_grown HH.out.dfr (grown_set W2 ⟨w.heap.size + 1, 0, none⟩ (.int .u64 (A : Int))) (by simp)) (grown_set _ ⟨w.heap.size + 2, 0, none⟩ (.bool true)) (by simp)
      have ub : Below w.heap.size w ((W2.setCell ⟨w.heap.size + 1, 0, none⟩ (.int .u64 (A : Int))).setCell ⟨w.heap.size + 2, 0, none⟩ (.bool true)) := (HH.out.below.grown (grown_set _ _ _) HH.out.below.size (fun j hj => by simp at hj; omega)).grown (grown_set _ _ _) (Nat.le_trans HH.out.below.size (grown_set _ _ _).size) (fun j hj => by simp at hj; omega)
      generalize (W2.setCell ⟨w.heap.size + 1, 0, none⟩ (.int .u64 (A : Int))).setCell ⟨w.heap.size + 2, 0, none⟩ (.bool true) = W3 at *
      refine ⟨by simp, .inl ⟨_, _, rfl, run_takeDeferred (ds := []) hdf, ?_⟩⟩
      have g3 := grownBy_putObj' W3 (w.heap.size + 5) (.deferred none)
      refine ⟨_, results_cells2 (x := .int .u64 (A : Int)) (y := .bool true) rfl _ _ rfl rfl (blk_grown q.1 g3 (by simp)) (blk_grown q.2 g3 (by simp)), ?_, ub.grown g3 ub.size (fun j hj => by simp at hj; omega)⟩
      rw [HF0.out, HF.out]
    · refine ⟨rd, H.loop, by rw [rd1]; simp, .inr ⟨rd2, ?_⟩⟩
      have H2 := H.put { rd with state := .exhausted }
      have HF : Hid (fieldW i l = 0) := FB.out j hj hs
      generalize W'.putObj (w.heap.size + 6) (.loop { rd with state := .exhausted }) = W2 at *
      refine ⟨by simp, .inl ⟨_, _, rfl, run_takeDeferred (ds := []) H2.dfr, ?_⟩⟩
      have g3 := grownBy_putObj' W2 (w.heap.size + 5) (.deferred none)
      refine ⟨_, results_cells2 (x := .int .u64 0) (y := .bool false) rfl _ _ rfl rfl (blk_grown H2.res g3 (by simp)) (blk_grown H2.okc g3 (by simp)), ?_, H2.below.grown g3 H2.below.size (fun j hj => by simp at hj; omega)⟩
      rw [HF.out]
      rfl
  case hY =>
    rintro k W0 hk ⟨hs, H⟩
    refine ⟨r.fn, _, r.assign, r.body, run_yield H.loop (by rw [r4]; rfl), roundIn_of_wpIn trivial ?_⟩
    rw [r3, r4, r5, r6]
    gi_wp2
    refine ⟨_, run_beginRound H.loop r1, ?_⟩
    have H2 := H.put { r with state := .busy }
    generalize W0.putObj (w.heap.size + 6) (.loop { r with state := .busy }) = Wb at *
    have HB : Hid (FldW w i l (accW i ((splitN l 44).take k)) { r with state := .busy } Wb) := H2
    have q5 := blk_cell H2.box 0 _ rfl
    have M1 := hid (HM.out k hk Wb H2.below)
    have HR : Hid (r.state = .ready ∧ r.pending = none) := ⟨r1, r2⟩
    have HS : Hid (∀ j, j < k → itemW i (nthL (splitN l 44) j) ≠ 0) := hs
    have LK := hid (HL.out k hk)
    have IX : itemW i (nthL (splitN l 44) k) < 18446744073709551616 := IL.out _
    have AX : accW i ((splitN l 44).take k) < 18446744073709551616 := AL.out k
    have EX : Hid (itemW i (nthL (splitN l 44) k) = itemW i (nthL (splitN l 44) k)) := rfl
    clear H H2 J0 c0 c1 c2 c3 c4 u3 r1 r2 r3 r4 r5 r6 rd1 rd2 hs HI HM HL IL AL FB FG A0 AN EX
    obtain ⟨x, hxk⟩ : ∃ x, x = itemW i (nthL (splitN l 44) k) := ⟨_, rfl⟩
    obtain ⟨s, hsk⟩ : ∃ s, s = accW i ((splitN l 44).take k) := ⟨_, rfl⟩
    rw [← hxk] at M1 IX LK
    rw [← hsk] at HB AX LK
    have XK := hid hxk
    clear hxk hsk
    generalize hit : nthL (splitN l 44) k = it at *
    have HIT := hid hit
    clear hit
    gi_wp2
    refine ⟨trivial, ?_⟩
    refine (callsIn_wide.2 M1.out).mono ?_
    rintro e W4 ⟨rfl, hb4⟩
    have H4 := HB.out.up hb4
    have HB4 := hid H4
    have q1 := blk_cell H4.res 0 _ rfl
    have q2 := blk_cell H4.okc 0 _ rfl
    have q3 := blk_frozen H4.res 0
    have q4 := blk_frozen H4.okc 0
    have q6 := blk_cell H4.acc 0 _ rfl
    have q7 := blk_frozen H4.acc 0
    clear H4 hb4 HB q5
    by_cases hz : x = 0
    · subst hz
      have z0 : (!((0 : Nat) == 0)) = false := rfl
      rw [z0]
      gi_wp2
      have HB2 := HB4.out.set
      have hend := run_endRound (P := Tryd.prog) (some .ret) HB2.loop
      have hrr : ({ ({ r with state := .busy } : Loop) with state := if (some Code.ret).isNone then LoopState.ready else LoopState.done, pending := some .ret } : Loop) = rd := by
        rw [HRD.out]
        rfl
      rw [hrr] at hend
      refine ⟨_, _, hend, .inr ⟨rfl, ⟨k, hk, ?_⟩, s, HB2.put rd⟩⟩
      rw [HIT.out]
      exact XK.out.symm
    · have z1 : (!(x == 0)) = true := by simpa using hz
      have po := bit_or s x AX IX
      rw [z1]
      gi_wp2
      have HB2 := HB4.out.add (s ||| x)
      have hend := run_endRound (P := Tryd.prog) none HB2.loop
      have hrr : ({ ({ r with state := .busy } : Loop) with state := if (none : Option Code).isNone then LoopState.ready else LoopState.done, pending := none } : Loop) = r := by
        obtain ⟨r1, r2⟩ := HR.out
        cases r
        simp at r1 r2
        subst r1 r2
        rfl
      rw [hrr] at hend
      refine ⟨_, _, hend, .inl ⟨rfl, fun j hj => ?_, ?_⟩⟩
      · by_cases hji : j = k
        · subst hji
          rw [HIT.out, ← XK.out]
          exact hz
        · exact HS.out j (by omega)
      · rw [LK.out]
        exact HB2.put r
end Go.Proofs.YtpjmieiajhhbaaaDoor
