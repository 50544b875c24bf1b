
import Derived.Test.YtnchjlimkgbfpaaGreatDoorE35
import Derived.Test.YtnchjlimkgbfpaaGreatDoorE11
import Derived.Test.YtnchjlimkgbfpaaGreatDoorE02
import Derived.Maps.OwnIn
namespace Go.Proofs.YtnchjlimkgbfpaaGreatDoor
open Go.RowKit Go.Shelf SumPlain
set_option linter.unusedVariables false
set_option maxRecDepth 20000
attribute [local go_sem] Oper.semAt_some
def grow (x : Got) : List Value := [.int .i64 x.2.1, x.1]
theorem records_any (a : Option Addr) (n c : Nat) (w : World) : Calls Tryz.prog 135 #[.slice a n c] w fun e w' => e = .returned (.func (.func 172) #[] #[.pointer (some ⟨w.heap.size, 0, none⟩)]) ∧ w' = w.alloc (.cells #[.slice a n c] 88) := by
  go_enter Tryz.func135, Tryz.ntmps135
  go_wp2
  go_ret
  exact ⟨rfl, rfl⟩
theorem range_law {g : Operand} {ps : Array Tmp} {assign body : Code} {Q : Exit → Act → World → Prop} {a : Act} {w : World} {n gf : Nat} {lb : Array Value} (hg : a.eval g = .func (.func gf) #[] lb)
    (eg : ∀ args w, (callFunc gf args).run Tryz.prog w = .ok (.enter gf args) w)
    (h : ∀ r : Loop, r.state = .ready → r.pending = none → r.tmps = a.tmps → r.params = ps → r.assign = assign → r.body = body →
      CallsIn Fence.wide (n - 1) Tryz.prog gf (#[.func (.yield (w.heap.size + 1)) #[] #[]] ++ lb) ((w.alloc (.deferred (some []))).alloc (.loop r))
      fun e W' => (∃ v, e = .returned v) ∧ W'.heap[w.heap.size + 1]? = some (.loop r) ∧ Q .normal { a with defers := { target := .collected w.heap.size, args := #[] } :: a.defers } (W'.putObj (w.heap.size + 1) (.loop { r with state := .exhausted }))) :
    (Code.rangeFunc g ps assign body).wpIn Fence.wide n Tryz.prog Q a w := by
  refine wpIn_rangeFunc ?_
  intro fn hfn
  have hent := run_enterLoop_outer (P := Tryz.prog) (w := w) fn a.tmps ps assign body
  obtain ⟨r, hr⟩ : ∃ r : Loop, r = { state := .ready, pending := none, fn, tmps := a.tmps, params := ps, assign, body, defers := w.heap.size } := ⟨_, rfl⟩
  have hh := h r (by rw [hr]) (by rw [hr]) (by rw [hr]) (by rw [hr]) (by rw [hr]) (by rw [hr])
  have h2 : r.state ≠ .busy := by rw [hr]; simp
  have h3 : r.pending = none := by rw [hr]
  rw [← hr] at hent
  clear h hr
  generalize (w.alloc (.deferred (some []))).alloc (.loop r) = W1 at *
  refine ⟨w.heap.size + 1, [{ target := .collected w.heap.size, args := #[] }], W1, { target := .fn (.func gf) lb, args := #[.func (.yield (w.heap.size + 1)) #[] #[]] }, W1, gf, #[.func (.yield (w.heap.size + 1)) #[] #[]] ++ lb, W1, hent, ?_, fun _ _ => trivial, ?_, fun h => (by cases h), ?_⟩
  · simp only [resolve, hg]
    simp [go_sem]
  · simp [invoke, go_sem, eg]
  · refine hh.mono ?_
    rintro e W' ⟨⟨v, rfl⟩, h1, h4⟩
    refine ⟨r.pending, _, run_endLoop (P := Tryz.prog) h1 h2, ?_⟩
    rw [h3] at h4 ⊢
    exact h4
def ScanJ (w : World) (v : Value) (r : Loop) (pre : List Got) (W : World) : Prop :=
  ∃ a n c, W.heap[w.heap.size]? = some (.cells #[.slice a n c] 171) ∧ W.heap[w.heap.size + 1]? = some (.cells #[.int .i64 ((lenOf (pre.map (·.2)) : Nat) : Int)] 3) ∧ W.heap[w.heap.size + 2]? = some (.cells #[v] 88) ∧
    W.heap[w.heap.size + 3]? = some (.deferred (some [])) ∧ W.heap[w.heap.size + 4]? = some (.loop r) ∧ OwnR W (w.heap.size + 5) 154 2 (.slice a n c) (pre.map grow) ∧ n = pre.length ∧
    (∀ x ∈ pre, NewB W (w.heap.size + 5) x.1 x.2.2.1 ∧ ∀ g, x.1.ownBlock = some g → x.2.2.1 ≠ [] → (Value.slice a n c).ownBlock ≠ some g) ∧ Below w.heap.size w W
theorem ScanJ.grown {w : World} {v : Value} {r : Loop} {pre : List Got} {W W' : World} (h : ScanJ w v r pre W) (hg : W.grownBy W' none) : ScanJ w v r pre W' := by
  obtain ⟨a, n, c, h1, h2, h3, h4, h5, h6, h7, h8, h9⟩ := h
  refine ⟨a, n, c, blk_grown h1 hg (by simp), blk_grown h2 hg (by simp), blk_grown h3 hg (by simp), blk_grown h4 hg (by simp), blk_grown h5 hg (by simp), h6.far hg ?_, h7, ?_, h9.grown hg h9.size (by simp)⟩
  · cases h : (Value.slice a n c).ownBlock with
    | none => exact .inl rfl
    | some g => exact .inr (by simp)
  · intro x hx
    exact ⟨(h8 x hx).1.far hg (by simp), (h8 x hx).2⟩
theorem Tryz.info154 : (Tryz.prog.info? 154).map (fun i => (i.zero, i.size, i.bytes)) = some (some (.agg #[.int .i64 0, .slice none 0 0]), 2, 32) := by kernel_rfl
set_option maxHeartbeats 2000000 in
theorem scan_any (b : List Int) (v : Value) (w : World) (hv : Octs w v b) (hl : b.length ≤ 17592186044416) :
    Calls Tryz.prog 91 #[v] w fun e w' => ∃ a' n' c' xs, e = .returned (.tuple #[.slice a' n' c', .int .i64 ((lenOf (scanOf b) : Nat) : Int)]) ∧ n' = (xs : List Got).length ∧ xs.map (·.2) = scanOf b ∧ OwnR w' w.heap.size 154 2 (.slice a' n' c') (xs.map grow) ∧ (∀ x ∈ xs, NewB w' w.heap.size x.1 x.2.2.1) ∧ Below w.heap.size w w' := by
  obtain ⟨a, cap, rfl, _, _⟩ := hv.len
  have HV : Hid (Octs w (.slice a b.length cap) b) := hv
  clear hv
  refine (callsIn_wide (n := 9)).1 ?_
  refine callsIn_of_wp_marks Tryz.func91 rfl trivial ?_ rfl
  simp only [Tryz.ntmps91, List.size_toArray, List.length_cons, List.length_nil, Nat.reduceAdd, Nat.reduceSub, Array.replicate_succ, Array.replicate_zero, List.push_toArray, List.append_toArray, List.nil_append, List.cons_append]
  gi_wp2
  refine ⟨trivial, ?_⟩
  refine (callsIn_wide.2 (records_any _ _ _ _)).mono ?_
  rintro e w1 ⟨rfl, rfl⟩
  gi_wp2
  have e3 : (((w.alloc (.cells #[.slice none 0 0] 171)).alloc (.cells #[.int .i64 0] 3)).alloc (.cells #[.slice a b.length cap] 88)).heap.size = w.heap.size + 3 := by simp
  have c0 : (((w.alloc (.cells #[.slice none 0 0] 171)).alloc (.cells #[.int .i64 0] 3)).alloc (.cells #[.slice a b.length cap] 88)).heap[w.heap.size]? = some (.cells #[.slice none 0 0] 171) := blk_up (blk_up (blk_new w _) (up_alloc _ _)) (up_alloc _ _)
  have c1 : (((w.alloc (.cells #[.slice none 0 0] 171)).alloc (.cells #[.int .i64 0] 3)).alloc (.cells #[.slice a b.length cap] 88)).heap[w.heap.size + 1]? = some (.cells #[.int .i64 0] 3) := by
    have h := blk_up (blk_new (w.alloc (.cells #[.slice none 0 0] 171)) (.cells #[.int .i64 0] 3)) (up_alloc _ (.cells #[.slice a b.length cap] 88))
    rw [World.size_alloc] at h
    exact h
  have c2 : (((w.alloc (.cells #[.slice none 0 0] 171)).alloc (.cells #[.int .i64 0] 3)).alloc (.cells #[.slice a b.length cap] 88)).heap[w.heap.size + 2]? = some (.cells #[.slice a b.length cap] 88) := by
    have h := blk_new ((w.alloc (.cells #[.slice none 0 0] 171)).alloc (.cells #[.int .i64 0] 3)) (.cells #[.slice a b.length cap] 88)
    rw [World.size_alloc, World.size_alloc] at h
    exact h
  have u3 : Below w.heap.size w (((w.alloc (.cells #[.slice none 0 0] 171)).alloc (.cells #[.int .i64 0] 3)).alloc (.cells #[.slice a b.length cap] 88)) := up_al (up_al (up_alloc _ _) _) _
  obtain ⟨w3, hw3⟩ : ∃ w3, ((w.alloc (.cells #[.slice none 0 0] 171)).alloc (.cells #[.int .i64 0] 3)).alloc (.cells #[.slice a b.length cap] 88) = w3 := ⟨_, rfl⟩
  rw [hw3] at e3 c0 c1 c2 u3 ⊢
  clear hw3
  refine range_law rfl (enters_of Tryz.func172 (by kernel_rfl) rfl) ?_
  intro r r1 r2 r3 r4 r5 r6
  rw [e3]
  have d1 : ((w3.alloc (.deferred (some []))).alloc (.loop r)).heap.size = w.heap.size + 5 := by simp; omega
  have J0 : ScanJ w (.slice a b.length cap) r [] ((w3.alloc (.deferred (some []))).alloc (.loop r)) := by
    have u : Below w3.heap.size w3 ((w3.alloc (.deferred (some []))).alloc (.loop r)) := up_al (up_alloc _ _) _
    refine ⟨none, 0, 0, blk_up c0 u, blk_up c1 u, blk_up c2 u, ?_, ?_, OwnR.nil _ _ _ _, rfl, (fun x hx => by cases hx), up_trans u3 u⟩
    · have h := blk_up (blk_new w3 (.deferred (some []))) (up_alloc _ (.loop r))
      rw [e3] at h
      exact h
    · have h := blk_new (w3.alloc (.deferred (some []))) (.loop r)
      rw [World.size_alloc, e3] at h
      exact h
  generalize (w3.alloc (.deferred (some []))).alloc (.loop r) = W1 at *
  have hsl := HV.out
  refine (recs_in 8 (w.heap.size + 4) (w.heap.size + 2) w.heap.size b a cap (ScanJ w (.slice a b.length cap) r) W1 (fun _ _ _ h g => h.grown g) ?round ?keep ?octs ?low J0).mono ?post
  case keep =>
    rintro pre W' ⟨aa, nn, cc, h1, h2, h3, h4, h5, h6, h7, h8, h9⟩
    obtain ⟨_, _, _, _, _, _, _, _, _, _, _, k9⟩ := J0
    refine ⟨⟨h9.os.trans k9.os.symm, h9.tape.trans k9.tape.symm, h9.output.trans k9.output.symm, ?_, fun k hk => (h9.block k hk).trans (k9.block k hk).symm⟩, blk_cell h3 0 _ rfl⟩
    have := blk_lt h5
    omega
  case octs =>
    obtain ⟨_, _, _, _, _, _, _, _, _, _, _, k9⟩ := J0
    exact hsl.up k9
  case low =>
    intro g hg hne
    exact hsl.lt g hg hne
  case post =>
    rintro e W' ⟨hv, xs, hxs, aa, nn, cc, h1, h2, h3, h4, h5, h6, h7, h8, h9⟩
    refine ⟨hv, h5, ?_⟩
    have g5 := grownBy_putObj' W' (w.heap.size + 4) (.loop { r with state := .exhausted })
    have k1 := blk_grown h1 g5 (by simp)
    have k2 := blk_grown h2 g5 (by simp)
    have k4 := blk_grown h4 g5 (by simp)
    have k6 : Hid (OwnR (W'.putObj (w.heap.size + 4) (.loop { r with state := .exhausted })) (w.heap.size + 5) 154 2 (.slice aa nn cc) (xs.map grow)) := h6.far g5 (by
      cases h : (Value.slice aa nn cc).ownBlock with
      | none => exact .inl rfl
      | some g => exact .inr (by have := (h6.2.lt g h).1; simp; omega))
    have k8 : Hid (∀ x ∈ xs, NewB (W'.putObj (w.heap.size + 4) (.loop { r with state := .exhausted })) (w.heap.size + 5) x.1 x.2.2.1) := fun x hx => (h8 x hx).1.far g5 (fun g hg e => by have := (h8 x hx).1.2 g hg; simp at e; omega)
    have k9 : Hid (Below w.heap.size w (W'.putObj (w.heap.size + 4) (.loop { r with state := .exhausted }))) := h9.grown g5 h9.size (fun k hk => by simp at hk; omega)
    generalize W'.putObj (w.heap.size + 4) (.loop { r with state := .exhausted }) = W2 at *
    rw [hxs] at k2
    have q1 := blk_cell k1 0 _ rfl
    have q2 := blk_cell k2 0 _ rfl
    have K4 : Hid (W2.heap[w.heap.size + 3]? = some (.deferred (some []))) := k4
    have HX : Hid (xs.map (·.2) = scanOf b ∧ nn = xs.length) := ⟨hxs, h7⟩
    clear hxs h1 h2 h3 h4 h5 h6 h7 h8 h9 g5 k1 k2 k4 J0 c0 c1 c2 u3 e3 d1
    gi_wp2
    gi_region
    all_goals gi_wp2
    refine ⟨by simp, .inl ⟨_, _, rfl, run_takeDeferred (ds := []) (blk_up K4.out (up_dr (Below.refl _ _))), ?_⟩⟩
    have g7 : W2.grownBy (W2.drew.putObj (w.heap.size + 3) (.deferred none)) (some (w.heap.size + 3)) := grown_trans (grown_up (up_dr (Below.refl _ _)) _) (grownBy_putObj' _ _ _)
    refine ⟨_, results_tmp2 rfl _ _ _, aa, nn, cc, xs, rfl, HX.out.2, HX.out.1, ?_, ?_, ?_⟩
    · refine OwnR.mono (k6.out.far g7 ?_) (by omega)
      cases h : (Value.slice aa nn cc).ownBlock with
      | none => exact .inl rfl
      | some g => exact .inr (by have := (k6.out.2.lt g h).1; simp; omega)
    · intro x hx
      exact ((k8.out x hx).far g7 (fun g hg e => by have := (k8.out x hx).2 g hg; simp at e; omega)).mono (by omega)
    · exact k9.out.grown g7 k9.out.size (fun k hk => by simp at hk; omega)
  case round =>
    intro pre a' n' c' k d n e W0 Wy hJ hbel hn' hnew he h6p hlen
    have hlt0 : ∀ aa nn cc, W0.heap[w.heap.size]? = some (.cells #[.slice aa nn cc] 171) → ∀ g, (Value.slice aa nn cc).ownBlock = some g → g < W0.heap.size := by
      obtain ⟨a0, n0, c0', q1, _, _, _, _, q6, _⟩ := hJ
      intro aa nn cc hq g hg
      rw [q1] at hq
      simp at hq
      obtain ⟨rfl, rfl, rfl⟩ := hq
      exact (q6.2.lt g hg).2
    have hJ0 := hJ
    obtain ⟨aa, nn, cc, h1, h2, h3, h4, h5, h6, h7, h8, h9⟩ := hJ.grown (grown_up hbel none)
    have hrow : ∀ g, (Value.slice aa nn cc).ownBlock = some g → g < W0.heap.size := by
      refine hlt0 aa nn cc ?_
      obtain ⟨a0, n0, c0', q1, _⟩ := hJ
      have := blk_up q1 hbel
      rw [h1] at this
      rw [q1, this]
    subst hn'
    subst h7
    refine ⟨r.fn, _, r.assign, r.body, run_yield h5 (by rw [r4]; rfl), roundIn_of_wpIn trivial ?_⟩
    rw [r3, r4, r5, r6]
    gi_wp2
    have uA : Below Wy.heap.size Wy (Wy.alloc (.cells #[.int .i64 k, .slice a' d.length c'] 154)) := up_alloc _ _
    have hLa := blk_up h5 uA
    refine ⟨_, run_beginRound hLa r1, ?_⟩
    have gA : Wy.grownBy ((Wy.alloc (.cells #[.int .i64 k, .slice a' d.length c'] 154)).putObj (w.heap.size + 4) (.loop { r with state := .busy })) (some (w.heap.size + 4)) := grown_trans (grown_up uA _) (grownBy_putObj' _ _ _)
    have hLb : ((Wy.alloc (.cells #[.int .i64 k, .slice a' d.length c'] 154)).putObj (w.heap.size + 4) (.loop { r with state := .busy })).heap[w.heap.size + 4]? = some (.loop { r with state := .busy }) := World.putObj_heap_same (blk_lt hLa)
    have hXb : ((Wy.alloc (.cells #[.int .i64 k, .slice a' d.length c'] 154)).putObj (w.heap.size + 4) (.loop { r with state := .busy })).heap[Wy.heap.size]? = some (.cells #[.int .i64 k, .slice a' d.length c'] 154) := blk_grown (blk_new Wy _) (grownBy_putObj' _ _ _) (by have := blk_lt h5; simp; omega)
    have hsz := hbel.size
    have hWy := blk_lt h5
    generalize (Wy.alloc (.cells #[.int .i64 k, .slice a' d.length c'] 154)).putObj (w.heap.size + 4) (.loop { r with state := .busy }) = Wb at *
    have x1 := blk_grown h1 gA (by simp)
    have x2 := blk_grown h2 gA (by simp)
    have x3 := blk_grown h3 gA (by simp)
    have x4 := blk_grown h4 gA (by simp)
    have x6 : OwnR Wb (w.heap.size + 5) 154 2 (.slice aa pre.length cc) (pre.map grow) := h6.far gA (by
      cases h : (Value.slice aa pre.length cc).ownBlock with
      | none => exact .inl rfl
      | some g => exact .inr (by have := (h6.2.lt g h).1; simp; omega))
    have x8 : ∀ x ∈ pre, NewB Wb (w.heap.size + 5) x.1 x.2.2.1 := fun x hx => (h8 x hx).1.far gA (fun g hg e => by have := (h8 x hx).1.2 g hg; simp at e; omega)
    have hold : ∀ x ∈ pre, ∀ g, x.1.ownBlock = some g → x.2.2.1 ≠ [] → (Value.slice aa pre.length cc).ownBlock ≠ some g := fun x hx => (h8 x hx).2
    have hW0 : w.heap.size + 5 ≤ W0.heap.size := by
      obtain ⟨_, _, _, _, _, _, _, q5, _⟩ := hJ0
      have := blk_lt q5
      omega
    have xN : NewB Wb W0.heap.size (.slice a' d.length c') d := hnew.far gA (fun g hg e => by have := hnew.2 g hg; simp at e; omega)
    have x9 : Below w.heap.size w Wb := h9.grown gA h9.size (fun k hk => by simp at hk; omega)
    obtain ⟨i0, hi, hz0, hz1, hz2⟩ := info_some Tryz.info154
    have hrow6 : (Wb.alloc (.cells #[.int .i64 k, .slice a' d.length c'] 154)).ownsRow (w.heap.size + 5) 154 2 (.slice aa pre.length cc) pre.length (pre.map grow).flatten := by
      have := x6.2.alloc (.cells #[.int .i64 k, .slice a' d.length c'] 154)
      rw [List.length_map] at this
      exact this
    have y1 := blk_cell x1 0 _ rfl
    have y2 := blk_cell hXb 0 _ rfl
    have y3 := blk_cell hXb 1 _ rfl
    have hnn : pre.length ≤ 17592186044416 := by omega
    have hszb : w.heap.size + 5 ≤ Wb.heap.size := by have := blk_lt hXb; omega
    have HJ : Hid (ScanJ w (.slice a b.length cap) r pre W0) := hJ0
    clear hJ0 hJ hlt0 h1 h2 h3 h4 h5 h6 h8 h9 r3 r4 r5 r6 uA hLa J0 c0 c1 c2 u3 hsl
    gi_wp2_with (gi_at_builtin; refine wpListIn_append_own_at _ rfl _ _ 171 rfl (w.heap.size + 5) 154 i0 (.agg #[.int .i64 0, .slice none 0 0]) 2 32 Tryz.underlying171 hi hz0 hz1 hz2 rfl (by decide) _ pre.length _ rfl hrow6 ⟨Wb.heap.size, 0, none⟩ 1 1 [.int .i64 k, .slice a' d.length c'] rfl rfl ?cc1 ?cc2 ?cc3 ?cc4 ?cc5 ?_)
    case cc1 =>
      intro j u hj
      exact cells_new Wb [.int .i64 k, .slice a' d.length c'] [] 154 j u hj
    case cc2 =>
      intro u hu
      simp at hu
      rcases hu with rfl | rfl <;> rfl
    case cc3 => unfold maxLen; omega
    case cc4 => omega
    case cc5 => simp; omega
    intro v5 w5 own5 g5 _ hw5
    obtain ⟨g', cap', rfl⟩ := ownsRow_succ own5
    have gB : Wb.grownBy w5 (Value.slice aa pre.length cc).ownBlock := grown_trans (grown_up (up_alloc _ _) _) g5
    have hnrow : ∀ g, g < w.heap.size + 5 → some g ≠ (Value.slice aa pre.length cc).ownBlock := by
      intro g hg e
      have := (x6.2.lt g e.symm).1
      omega
    have z1 := blk_grown x1 gB (hnrow _ (by omega))
    have z2 := blk_grown x2 gB (hnrow _ (by omega))
    have z3 := blk_grown x3 gB (hnrow _ (by omega))
    have z4 := blk_grown x4 gB (hnrow _ (by omega))
    have zL := blk_grown hLb gB (hnrow _ (by omega))
    have t1 := blk_cell z1 0 _ rfl
    have t2 := blk_cell z2 0 _ rfl
    have t3 := blk_frozen z1 0
    have t4 := blk_frozen z2 0
    have Z1 : Hid (w5.heap[w.heap.size]? = some (.cells #[.slice aa pre.length cc] 171)) := z1
    have Z2 : Hid (w5.heap[w.heap.size + 1]? = some (.cells #[.int .i64 ((lenOf (pre.map (·.2)) : Nat) : Int)] 3)) := z2
    have Z3 : Hid (w5.heap[w.heap.size + 2]? = some (.cells #[.slice a b.length cap] 88)) := z3
    have Z4 : Hid (w5.heap[w.heap.size + 3]? = some (.deferred (some []))) := z4
    have ZL : Hid (w5.heap[w.heap.size + 4]? = some (.loop { r with state := .busy })) := zL
    have Z6 : Hid (OwnR w5 (w.heap.size + 5) 154 2 (.slice (some ⟨g', 0, none⟩) (pre.length + 1) cap') ((pre ++ [((.slice a' d.length c', k, d, n) : Got)]).map grow)) := by
      refine ⟨?_, ?_⟩
      · intro cs hcs
        obtain ⟨x, _, rfl⟩ := List.mem_map.1 hcs
        rfl
      · rw [List.length_map, List.length_append, List.map_append, List.flatten_append]
        exact own5
    have hdl : ∀ (x : Got) (g : Nat), Octs Wb x.1 x.2.2.1 → x.1.ownBlock = some g → x.2.2.1 ≠ [] → g < Wb.heap.size := fun x g hx hg hne => hx.lt g hg hne
    have hnewrow : ∀ g, g < Wb.heap.size → some g ≠ (Value.slice aa pre.length cc).ownBlock → (Value.slice (some ⟨g', 0, none⟩) (pre.length + 1) cap').ownBlock ≠ some g := by
      intro g hg hne e
      rcases hw5 with q | q
      · rw [q] at e; exact hne e.symm
      · rw [q] at e; simp at e; omega
    have Z8 : Hid (∀ x ∈ pre ++ [((.slice a' d.length c', k, d, n) : Got)], NewB w5 (w.heap.size + 5) x.1 x.2.2.1 ∧ ∀ g, x.1.ownBlock = some g → x.2.2.1 ≠ [] → (Value.slice (some ⟨g', 0, none⟩) (pre.length + 1) cap').ownBlock ≠ some g) := by
      intro x hx
      have hb : NewB Wb (w.heap.size + 5) x.1 x.2.2.1 ∧ ∀ g, x.1.ownBlock = some g → x.2.2.1 ≠ [] → some g ≠ (Value.slice aa pre.length cc).ownBlock := by
        rcases List.mem_append.1 hx with h | h
        · exact ⟨x8 x h, fun g hg hne e => hold x h g hg hne e.symm⟩
        · simp at h
          subst h
          exact ⟨xN.mono hW0, fun g hg hne e => by have := hrow g e.symm; have := xN.2 g hg; omega⟩
      refine ⟨⟨hb.1.1.far gB (fun g hg hne => hb.2 g hg hne), hb.1.2⟩, fun g hg hne => hnewrow g (hdl x g hb.1.1 hg hne) (hb.2 g hg hne)⟩
    have Z9 : Hid (Below w.heap.size w w5) := x9.grown gB x9.size (fun j hj => by have := (x6.2.lt j hj).1; omega)
    clear z1 z2 z3 z4 zL x1 x2 x3 x4 x6 x8 x9 xN hnrow hdl hnewrow hLb hXb gA gB g5 own5 hrow6 y1 y2 y3 hrow hold
    gi_wp2
    obtain ⟨w6, hw6⟩ : ∃ w6, (w5.setCell ⟨w.heap.size, 0, none⟩ (.slice (some ⟨g', 0, none⟩) (pre.length + 1) cap')).setCell ⟨w.heap.size + 1, 0, none⟩ (.int .i64 (((lenOf (pre.map (·.2)) : Nat) : Int) + (n : Int))) = w6 := ⟨_, rfl⟩
    have s1 := grown_set w5 ⟨w.heap.size, 0, none⟩ (.slice (some ⟨g', 0, none⟩) (pre.length + 1) cap')
    have s2 := grown_set (w5.setCell ⟨w.heap.size, 0, none⟩ (.slice (some ⟨g', 0, none⟩) (pre.length + 1) cap')) ⟨w.heap.size + 1, 0, none⟩ (.int .i64 (((lenOf (pre.map (·.2)) : Nat) : Int) + (n : Int)))
    have v1 := blk_grown (blk_set Z1.out 0 (.slice (some ⟨g', 0, none⟩) (pre.length + 1) cap')) s2 (by simp)
    have v2 := blk_set (blk_grown Z2.out s1 (by simp)) 0 (.int .i64 (((lenOf (pre.map (·.2)) : Nat) : Int) + (n : Int)))
    have v3 := blk_grown (blk_grown Z3.out s1 (by simp)) s2 (by simp)
    have v4 := blk_grown (blk_grown Z4.out s1 (by simp)) s2 (by simp)
    have vL := blk_grown (blk_grown ZL.out s1 (by simp)) s2 (by simp)
    rw [hw6] at v1 v2 v3 v4 vL s2
    have hrow7 : ∀ g, (Value.slice (some ⟨g', 0, none⟩) (pre.length + 1) cap').ownBlock = some g → w.heap.size + 5 ≤ g := fun g hg => (Z6.out.2.lt g hg).1
    have hne7 : ∀ q, q < w.heap.size + 5 → (Value.slice (some ⟨g', 0, none⟩) (pre.length + 1) cap').ownBlock = none ∨ (Value.slice (some ⟨g', 0, none⟩) (pre.length + 1) cap').ownBlock ≠ some q := fun q hq => .inr fun e => by have := hrow7 q e; omega
    have v6 := (Z6.out.far s1 (hne7 _ (by simp))).far s2 (hne7 _ (by simp))
    have v8 : ∀ x ∈ pre ++ [((.slice a' d.length c', k, d, n) : Got)], NewB w6 (w.heap.size + 5) x.1 x.2.2.1 := fun x hx => ((Z8.out x hx).1.far s1 (fun g hg e => by have := (Z8.out x hx).1.2 g hg; simp at e; omega)).far s2 (fun g hg e => by have := (Z8.out x hx).1.2 g hg; simp at e; omega)
    have v9 : Below w.heap.size w w6 := (Z9.out.grown s1 Z9.out.size (fun q hq => by simp at hq; omega)).grown s2 (Nat.le_trans Z9.out.size s1.size) (fun q hq => by simp at hq; omega)
    rw [hw6]
    have hrr : ({ ({ r with state := .busy } : Loop) with state := if (none : Option Code).isNone then LoopState.ready else LoopState.done, pending := none } : Loop) = r := by
      cases r
      simp at r1 r2
      subst r1 r2
      rfl
    have hend := run_endRound (P := Tryz.prog) none vL
    rw [hrr] at hend
    refine ⟨_, _, hend, rfl, ?_⟩
    have s3 := grownBy_putObj' w6 (w.heap.size + 4) (.loop r)
    refine ⟨some ⟨g', 0, none⟩, pre.length + 1, cap', blk_grown v1 s3 (by simp), ?_, blk_grown v3 s3 (by simp), blk_grown v4 s3 (by simp), World.putObj_heap_same (blk_lt vL), v6.far s3 (hne7 _ (by omega)), by simp, ?_, v9.grown s3 v9.size (fun q hq => by simp at hq; omega)⟩
    · have h := blk_grown v2 s3 (by simp)
      have e2 : ((lenOf ((pre ++ [((.slice a' d.length c', k, d, n) : Got)]).map (·.2)) : Nat) : Int) = ((lenOf (pre.map (·.2)) : Nat) : Int) + (n : Int) := by
        rw [List.map_append, lenOf_append]
        simp [lenOf]
      rw [e2]
      exact h
    · intro x hx
      exact ⟨(v8 x hx).far s3 (fun g hg e => by have := (v8 x hx).2 g hg; simp at e; omega), (Z8.out x hx).2⟩
end Go.Proofs.YtnchjlimkgbfpaaGreatDoor
