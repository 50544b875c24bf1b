
import Derived.Test.YtnchjlimkgbfpaaGreatDoorZ23
import Derived.Test.YtnchjlimkgbfpaaGreatDoorVPut
import Derived.Test.YtnchjlimkgbfpaaGreatDoorZ18
import Derived.Deep.RegionHeld3
namespace Go.Proofs.YtnchjlimkgbfpaaGreatDoor
open Go.RowKit
set_option linter.unusedVariables false
set_option maxRecDepth 20000
set_option linter.unusedSimpArgs false
def brow (x : Int) : List Value := [.int .u8 x]
theorem brow_flat : ∀ l : List Int, (l.map brow).flatten = l.map (Value.int .u8)
  | [] => rfl
  | x :: r => by simp only [List.map_cons, List.flatten_cons, brow_flat r]; rfl
theorem brow_len (l : List Int) : ∀ cs ∈ l.map brow, cs.length = 1 := by
  intro cs hcs
  obtain ⟨x, _, rfl⟩ := List.mem_map.1 hcs
  rfl
theorem brow_one (l : List Int) : ∀ cs ∈ l.map brow, ∀ u ∈ cs, u.oneCell' = true := by
  intro cs hcs u hu
  obtain ⟨x, _, rfl⟩ := List.mem_map.1 hcs
  simp only [brow, List.mem_singleton] at hu
  subst hu
  rfl
theorem ownB_R {w : World} {base : Nat} {v : Value} {l : List Int} (h : OwnB w base v l) : OwnR w base 5 1 v (l.map brow) := by
  refine ⟨brow_len l, ?_⟩
  rw [brow_flat, List.length_map]
  exact h
theorem ownB_of {w : World} {base : Nat} {v : Value} {l : List Int} (h : OwnR w base 5 1 v (l.map brow)) : OwnB w base v l := by
  have := h.2
  rw [brow_flat, List.length_map] at this
  exact this
theorem ownB_shape {w : World} {base : Nat} {v : Value} {l : List Int} (h : OwnB w base v l) : ∃ a n c, v = .slice a n c := by
  obtain ⟨a, c, e, _, _⟩ := (Rws.own (ownB_R h)).len
  exact ⟨a, _, c, e⟩
theorem octs_len (n : Int) (k : Nat) : (octs n k).length ≤ 9 := by
  unfold octs
  split <;> simp
theorem octets_lenE (n : Int) : (octets n).length ≤ 9 := octs_len _ _
theorem idsO_app : ∀ l r : List Int, idsO (l ++ r) = idsO l ++ idsO r
  | [], r => rfl
  | x :: t, r => by simp only [List.cons_append, idsO, idsO_app t r, List.append_assoc]
theorem idsO_len : ∀ l : List Int, (idsO l).length ≤ 9 * l.length
  | [] => by simp [idsO]
  | x :: t => by
    have := idsO_len t
    have := octets_lenE x
    simp only [idsO, List.length_append, List.length_cons]
    omega
structure KeptB (base B : Nat) (w w' : World) : Prop where
  below : Below base w w'
  keep : ∀ i cs t fr, w.heap[i]? = some (.cells cs t fr) → t ≠ 5 → i ≠ B → w'.heap[i]? = some (.cells cs t fr)
theorem KeptB.refl (base B : Nat) (w : World) : KeptB base B w w := ⟨Below.refl _ _, fun _ _ _ _ h _ _ => h⟩
theorem below_low {B : Nat} {w x : World} (h : Below w.heap.size w x) (hB : B ≤ w.heap.size) : Below B w x := ⟨h.os, h.tape, h.output, h.size, fun i hi => h.block i (Nat.lt_of_lt_of_le hi hB)⟩
theorem KeptB.trans {base B : Nat} {w x y : World} (h : KeptB base B w x) (k : KeptB base B x y) : KeptB base B w y :=
  ⟨h.below.trans k.below, fun i cs t fr h1 h2 h3 => k.keep i cs t fr (h.keep i cs t fr h1 h2 h3) h2 h3⟩
theorem KeptB.up {base B : Nat} {w x y : World} (h : KeptB base B w x) (k : Below x.heap.size x y) (hb : base ≤ x.heap.size) : KeptB base B w y :=
  h.trans ⟨below_low k hb, fun i cs t fr h1 _ _ => blk_up h1 k⟩
theorem KeptB.app {base B : Nat} {w x y : World} {v : Value} {o : List Int} {bo : Obj} (h : KeptB base B w x) (ho : OwnB x base v o) (hb : x.heap[B]? = some bo) (g : x.grownBy y v.ownBlock) (hB : base ≤ B) : KeptB base B w y := by
  refine h.trans ⟨⟨g.os, g.tape, g.output, g.size, fun i hi => g.block i (Nat.lt_trans (Nat.lt_of_lt_of_le hi hB) (blk_lt hb)) (fun q => by have := (World.ownsRow.lt ho i q.symm).1; omega)⟩, fun i cs t fr h1 h2 h3 => blk_grown h1 g (fun q => ?_)⟩
  rcases own_blk_ne ho h1 (fun e => h2 e.symm) with k | k
  · rw [k] at q; cases q
  · exact k q.symm
theorem KeptB.set {base B : Nat} {w x : World} (h : KeptB base B w x) (i : Nat) (u : Value) (hB : base ≤ B) : KeptB base B w (x.setCell ⟨B, i, none⟩ u) := by
  have g := grown_set x ⟨B, i, none⟩ u
  refine h.trans ⟨⟨g.os, g.tape, g.output, g.size, fun j hj => Below.heap_setCell x ⟨B, i, none⟩ u j (fun e => by simp only at e; omega)⟩, fun j cs t fr h1 h2 h3 => blk_grown h1 g (fun q => by injection q with q; exact h3 q)⟩
def PutW (base B : Nat) (w : World) (o : List Int) : Prop := ∃ a n c, w.heap[B]? = some (.cells #[.slice a n c] 88) ∧ OwnB w base (.slice a n c) o
theorem PutW.up {base B : Nat} {w w' : World} {o : List Int} (h : PutW base B w o) (k : Below w.heap.size w w') : PutW base B w' o := by
  obtain ⟨a, n, c, h1, h2⟩ := h
  exact ⟨a, n, c, blk_up h1 k, own_up h2 k⟩
set_option maxHeartbeats 4000000 in
set_option maxRecDepth 100000 in
theorem put42_any (base B : Nat) (l o : List Int) (v : Value) (w : World) (hp : PutW base B w o) (hBB' : base ≤ B) (hR : ∀ w', KeptB base B w w' → IntsR w' v l) (hl : ∀ x ∈ l, numE x = true) (hs : o.length + 9 * l.length ≤ 1099511627776) :
    Calls Tryz.prog 118 #[v, .pointer (some ⟨B, 0, none⟩)] w fun e w' => e = .returned (.tuple #[]) ∧ Hid (PutW base B w' (o ++ idsO l)) ∧ Hid (KeptB base B w w') := by
  have HR : Hid (∀ w', KeptB base B w w' → IntsR w' v l) := hR
  have HP : Hid (PutW base B w o) := hp
  have hBB : Hid (base ≤ B) := hBB'
  have HNN : Hid (∀ x ∈ l, numE x = true) := hl
  have HSZ : Hid (o.length + 9 * l.length ≤ 1099511627776) := hs
  obtain ⟨a1, c1, rfl, g1, m1⟩ := (hR w (KeptB.refl _ _ _)).len
  have hl63 : (l.length : Int) ≤ 9223372036854775807 := by unfold maxLen at m1; omega
  clear hR hp hl hs g1 m1 hBB'
  go_enter Tryz.func118, Tryz.ntmps118
  go_wp2_with fail
  go_loopw [7] (fun i wr => ∃ (k : Nat) (o' : List Int), k ≤ l.length ∧ i = .int .i64 k ∧ Hid (PutW base B wr o') ∧ Hid (o' = o ++ idsO (l.take k)) ∧ Hid (KeptB base B w wr)) (fun i _ => l.length - (intOf i).toNat)
  case atStart => exact ⟨0, o, Nat.zero_le _, rfl, HP, by simp [Hid, idsO], KeptB.refl _ _ _⟩
  case round =>
    obtain ⟨k, o', hk, rfl, HPW, HOE, HK⟩ := hrel
    by_cases hlt : k < l.length
    · have hlt' : (k : Int) < (l.length : Int) := by omega
      obtain ⟨b, off, cap, x, e, hx, x0⟩ := (HR.out _ HK.out).at k hlt
      simp at e
      obtain ⟨rfl, rfl⟩ := e
      have hnx := numE_iff.1 (HNN.out x (List.mem_of_getElem? hx))
      have hwx : IntKind.u64.wrap x = x := by rw [IntKind.wrap_u64]; omega
      have HPA : Hid (∀ W, Calls Tryz.prog 76 #[.int .u64 x] W fun e w' => ∃ v, e = .returned v ∧ w'.ownsRow W.heap.size 5 1 v (octets x).length ((octets x).map (Value.int .u8)) ∧ Below W.heap.size W w') := fun W => put_any x W (by omega) (by omega)
      have HOO : Hid (o' ++ octets x = o ++ idsO (l.take (k + 1))) := by
        unfold Hid
        rw [List.take_add_one, hx, HOE.out, idsO_app]
        simp [idsO]
      have HBN : Hid ((((o'.map brow).length + ((octets x).map brow).length) + ((o'.map brow).length + ((octets x).map brow).length) / 4 + 192) * 1 ≤ 281474976710656 ∧ (o'.map brow).length + ((octets x).map brow).length ≤ maxLen) := by
        have h1 := octets_lenE x
        have h2 := idsO_len (l.take k)
        have h3 : o'.length = o.length + (idsO (l.take k)).length := by rw [HOE.out, List.length_append]
        have h4 : (l.take k).length ≤ l.length := by rw [List.length_take]; omega
        have h5 := HSZ.out
        unfold Hid maxLen
        simp only [List.length_map]
        omega
      have HON := hid (brow_one (octets x))
      obtain ⟨a, n, c, HB', HO'⟩ := HPW.out
      have HB := hid HB'
      have HO := hid HO'
      have hK : base ≤ wr.heap.size := Nat.le_of_lt (Nat.lt_of_le_of_lt hBB.out (blk_lt HB'))
      have HS : Hid (base ≤ wr.heap.size) := hK
      clear hx hnx HPW HOE HB' HO' HR HNN HP
      go_upto_region 3 with fail
      refine wp_region_held_drew (S := (fun _ => True)) (by kernel_rfl) (by (try dsimp only); (try exact trivial)) (fun hHeld => ?_)
      have B0 := hid (blk_up HB.out (up_dr (Below.refl wr.heap.size wr)))
      have O0 : Hid (OwnB wr.drew base (.slice a n c) o') := own_up HO.out (up_dr (Below.refl wr.heap.size wr))
      have K0 : Hid (KeptB base B w wr.drew) := HK.out.up (up_dr (Below.refl wr.heap.size wr)) hK
      have S0 : Hid (base ≤ wr.drew.heap.size) := HS.out
      have hK0 : base ≤ wr.drew.heap.size := HS.out
      clear HB HO HK
      generalize wr.drew = wd at *
      have hK1 : ∀ w1 : World, base ≤ w1.heap.size → base ≤ w1.heap.size := fun _ h => h
      clear hK1
      have hK1 := hBB.out
      refine wpAnyH_take (i := 1) (v := ?_) rfl (by kernel_rfl) (by kernel_rfl) (by kernel_rfl) (fun _ _ _ h => h) (Or.inl ⟨by kernel_rfl, ?_⟩) (by assumption) ?_
      rotate_left
      focus (intro w hSw; (try dsimp only at hSw); go_simp; (try with_reducible rfl); done)
      try simp only [Act.put, List.getElem_toArray, List.getElem_cons_zero, List.getElem_cons_succ, List.setIfInBounds_toArray, List.set_cons_zero, List.set_cons_succ]
      refine wpAnyH_take (i := 2) (v := ?_) rfl (by kernel_rfl) (by kernel_rfl) (by kernel_rfl) (fun _ _ _ h => h) (Or.inl ⟨by kernel_rfl, ?_⟩) (by assumption) ?_
      rotate_left
      focus (intro w hSw; (try dsimp only at hSw); go_simp; (try with_reducible rfl); done)
      try simp only [Act.put, List.getElem_toArray, List.getElem_cons_zero, List.getElem_cons_succ, List.setIfInBounds_toArray, List.set_cons_zero, List.set_cons_succ]
      refine wpAnyH_ready (rs := [0, 3]) (by kernel_rfl) (by simp) ?_
      refine AllReadyH.cons rfl (fun K hK => ?_) (AllReadyH.cons rfl (fun K hK => ?_) AllReadyH.nil)
      · skip
        have q1 := blk_cell B0.out 0 _ rfl
        go_simp
        refine hK.out _ _ (by (try dsimp only); (try exact trivial)) (fun hHeld => ?_)
        clear hK K
        try simp only [Act.put, List.getElem_toArray, List.getElem_cons_zero, List.getElem_cons_succ, List.setIfInBounds_toArray, List.set_cons_zero, List.set_cons_succ]
        clear q1
        refine wpAnyH_ready (rs := [3]) (by kernel_rfl) (by simp) ?_
        refine AllReadyH.cons rfl (fun K hK => ?_) AllReadyH.nil
        go_simp
        refine (HPA.out wd).mono ?_
        rintro e w1 ⟨v1, rfl, o1, u1⟩
        have B1 := hid (blk_up B0.out u1)
        have O1 : Hid (OwnB w1 base (.slice a n c) o') := own_up O0.out u1
        have K1 : Hid (KeptB base B w w1) := K0.out.up u1 hK0
        have R1 := hid (Rws.own (ownB_R o1))
        have S1 : Hid (base ≤ w1.heap.size) := Nat.le_trans S0.out u1.size
        clear o1 u1
        go_wp2_with fail
        refine hK.out _ _ (by (try dsimp only); (try exact trivial)) (fun hHeld => ?_)
        clear hK K
        try simp only [Act.put, List.getElem_toArray, List.getElem_cons_zero, List.getElem_cons_succ, List.setIfInBounds_toArray, List.set_cons_zero, List.set_cons_succ]
        refine wpAnyH_ready (rs := [4]) (by kernel_rfl) (by simp) ?_
        refine AllReadyH.cons rfl (fun K hK => ?_) AllReadyH.nil
        refine step_append_rows _ rfl (.tmp 11) (.tmp 14) 88 5 (.int .u8 0) 1 1 rfl Tryz.underlying88 Tryz.info5 rfl (by decide) base (.slice a n c) (o'.map brow) rfl (ownB_R O1.out) v1 ((octets x).map brow) rfl R1.out HON.out HBN.out.1 HBN.out.2 S1.out ?_
        intro v6 w6 o6 g6
        have o6' : OwnB w6 base v6 (o' ++ octets x) := ownB_of (by rw [List.map_append]; exact o6)
        obtain ⟨a6, n6, c6, rfl⟩ := ownB_shape o6'
        have K6 := hid (K1.out.app O1.out B1.out g6 hK1)
        have B6 := hid (blk_grown B1.out g6 (fun q => (own_blk_ne O1.out B1.out (by decide)).elim (fun h => by rw [h] at q; cases q) (fun h => h q.symm)))
        have O6 := hid o6'
        clear o6 g6 o6'
        refine hK.out _ _ (by (try dsimp only); (try exact trivial)) (fun hHeld => ?_)
        clear hK K
        try simp only [Act.put, List.getElem_toArray, List.getElem_cons_zero, List.getElem_cons_succ, List.setIfInBounds_toArray, List.set_cons_zero, List.set_cons_succ]
        refine wpAnyH_ready (rs := [5]) (by kernel_rfl) (by simp) ?_
        refine AllReadyH.cons rfl (fun K hK => ?_) AllReadyH.nil
        have q2 := blk_cell B6.out 0 _ rfl
        have q3 := blk_frozen B6.out 0
        go_simp
        refine hK.out _ _ (by (try dsimp only); (try exact trivial)) (fun hHeld => ?_)
        clear hK K
        try simp only [Act.put, List.getElem_toArray, List.getElem_cons_zero, List.getElem_cons_succ, List.setIfInBounds_toArray, List.set_cons_zero, List.set_cons_succ]
        refine wpAnyH_done (by kernel_rfl) ?_ _
        clear q2 q3
        have B7 : Hid ((w6.setCell ⟨B, 0, none⟩ (.slice a6 n6 c6)).heap[B]? = some (.cells #[.slice a6 n6 c6] 88)) := blk_set B6.out 0 _
        have O7 : Hid (OwnB (w6.setCell ⟨B, 0, none⟩ (.slice a6 n6 c6)) base (.slice a6 n6 c6) (o' ++ octets x)) := World.ownsRow.kept O6.out (grown_set w6 ⟨B, 0, none⟩ _) (own_blk_ne O6.out B6.out (by decide))
        have K7 := hid (K6.out.set 0 (.slice a6 n6 c6) hBB.out)
        clear B6 O6 K6
        generalize HY : World.setCell w6 _ _ = y6 at *
        clear HY
        go_wp2_with fail
        exact ⟨⟨k + 1, o' ++ octets x, by omega, by go_num, ⟨a6, n6, c6, B7.out, O7.out⟩, HOO.out, K7⟩, by simp [intOf]; omega⟩
      · skip
        go_simp
        refine (HPA.out wd).mono ?_
        rintro e w1 ⟨v1, rfl, o1, u1⟩
        have B1 := hid (blk_up B0.out u1)
        have O1 : Hid (OwnB w1 base (.slice a n c) o') := own_up O0.out u1
        have K1 : Hid (KeptB base B w w1) := K0.out.up u1 hK0
        have R1 := hid (Rws.own (ownB_R o1))
        have S1 : Hid (base ≤ w1.heap.size) := Nat.le_trans S0.out u1.size
        clear o1 u1
        go_wp2_with fail
        refine hK.out _ _ (by (try dsimp only); (try exact trivial)) (fun hHeld => ?_)
        clear hK K
        try simp only [Act.put, List.getElem_toArray, List.getElem_cons_zero, List.getElem_cons_succ, List.setIfInBounds_toArray, List.set_cons_zero, List.set_cons_succ]
        refine wpAnyH_ready (rs := [0]) (by kernel_rfl) (by simp) ?_
        refine AllReadyH.cons rfl (fun K hK => ?_) AllReadyH.nil
        have q1 := blk_cell B1.out 0 _ rfl
        go_simp
        refine hK.out _ _ (by (try dsimp only); (try exact trivial)) (fun hHeld => ?_)
        clear hK K
        try simp only [Act.put, List.getElem_toArray, List.getElem_cons_zero, List.getElem_cons_succ, List.setIfInBounds_toArray, List.set_cons_zero, List.set_cons_succ]
        clear q1
        refine wpAnyH_ready (rs := [4]) (by kernel_rfl) (by simp) ?_
        refine AllReadyH.cons rfl (fun K hK => ?_) AllReadyH.nil
        refine step_append_rows _ rfl (.tmp 11) (.tmp 14) 88 5 (.int .u8 0) 1 1 rfl Tryz.underlying88 Tryz.info5 rfl (by decide) base (.slice a n c) (o'.map brow) rfl (ownB_R O1.out) v1 ((octets x).map brow) rfl R1.out HON.out HBN.out.1 HBN.out.2 S1.out ?_
        intro v6 w6 o6 g6
        have o6' : OwnB w6 base v6 (o' ++ octets x) := ownB_of (by rw [List.map_append]; exact o6)
        obtain ⟨a6, n6, c6, rfl⟩ := ownB_shape o6'
        have K6 := hid (K1.out.app O1.out B1.out g6 hK1)
        have B6 := hid (blk_grown B1.out g6 (fun q => (own_blk_ne O1.out B1.out (by decide)).elim (fun h => by rw [h] at q; cases q) (fun h => h q.symm)))
        have O6 := hid o6'
        clear o6 g6 o6'
        refine hK.out _ _ (by (try dsimp only); (try exact trivial)) (fun hHeld => ?_)
        clear hK K
        try simp only [Act.put, List.getElem_toArray, List.getElem_cons_zero, List.getElem_cons_succ, List.setIfInBounds_toArray, List.set_cons_zero, List.set_cons_succ]
        refine wpAnyH_ready (rs := [5]) (by kernel_rfl) (by simp) ?_
        refine AllReadyH.cons rfl (fun K hK => ?_) AllReadyH.nil
        have q2 := blk_cell B6.out 0 _ rfl
        have q3 := blk_frozen B6.out 0
        go_simp
        refine hK.out _ _ (by (try dsimp only); (try exact trivial)) (fun hHeld => ?_)
        clear hK K
        try simp only [Act.put, List.getElem_toArray, List.getElem_cons_zero, List.getElem_cons_succ, List.setIfInBounds_toArray, List.set_cons_zero, List.set_cons_succ]
        refine wpAnyH_done (by kernel_rfl) ?_ _
        clear q2 q3
        have B7 : Hid ((w6.setCell ⟨B, 0, none⟩ (.slice a6 n6 c6)).heap[B]? = some (.cells #[.slice a6 n6 c6] 88)) := blk_set B6.out 0 _
        have O7 : Hid (OwnB (w6.setCell ⟨B, 0, none⟩ (.slice a6 n6 c6)) base (.slice a6 n6 c6) (o' ++ octets x)) := World.ownsRow.kept O6.out (grown_set w6 ⟨B, 0, none⟩ _) (own_blk_ne O6.out B6.out (by decide))
        have K7 := hid (K6.out.set 0 (.slice a6 n6 c6) hBB.out)
        clear B6 O6 K6
        generalize HY : World.setCell w6 _ _ = y6 at *
        clear HY
        go_wp2_with fail
        exact ⟨⟨k + 1, o' ++ octets x, by omega, by go_num, ⟨a6, n6, c6, B7.out, O7.out⟩, HOO.out, K7⟩, by simp [intOf]; omega⟩
    · have hlt' : ¬ (k : Int) < (l.length : Int) := by omega
      obtain rfl : k = l.length := by omega
      rw [List.take_length] at HOE
      have HPW' : Hid (PutW base B wr (o ++ idsO l)) := by rw [← HOE.out]; exact HPW.out
      clear HOE HPW
      go_wp2_with fail
      go_end0
      exact ⟨rfl, HPW', HK⟩
end Go.Proofs.YtnchjlimkgbfpaaGreatDoor
