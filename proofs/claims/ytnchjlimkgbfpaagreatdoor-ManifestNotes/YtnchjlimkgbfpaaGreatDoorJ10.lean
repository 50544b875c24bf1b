/- The texts Q4, Q5, in this order. -/
import Derived.Test.YtnchjlimkgbfpaaGreatDoorJ09

namespace Go.Proofs.YtnchjlimkgbfpaaGreatDoor
open Go.RowKit
set_option linter.unusedVariables false
set_option maxRecDepth 20000
set_option linter.unusedSimpArgs false
theorem addId_mem (ids : List Int) (x y : Int) : (addId ids x).contains y = (ids.contains y || (y == x)) := by
  unfold addId
  by_cases e : y = x
  · subst e
    split <;> simp_all
  · split
    · simp [e]
    · simp [e]
theorem idsOf_mem (l : List (List Int × Int)) (x : Int) : (idsOf l).contains x = standsOf l x := by
  have h : ∀ (k : List (List Int × Int)) (acc : List Int), ((k.map (·.2)).foldl addId acc).contains x = (acc.contains x || standsOf k x) := by
    intro k
    induction k with
    | nil => intro acc; simp [standsOf]
    | cons p k ih =>
      intro acc
      rw [List.map_cons, List.foldl_cons, ih, addId_mem]
      simp only [standsOf, List.any_cons]
      rw [Bool.or_assoc]
      congr 2
      rw [Bool.eq_iff_iff]
      simp only [beq_iff_eq]
      exact eq_comm
  have := h l []
  simpa [idsOf] using this
def sweptOf (s : St) : St := { s with files := s.files.filter fun f => standsOf s.names f.1 || standsOf s.safe f.1 }
theorem stands_append (a b : List (List Int × Int)) (x : Int) : standsOf (a ++ b) x = (standsOf a x || standsOf b x) := by simp [standsOf]
theorem swept_rows (m : List FRow) (s : St) (h : m.map (·.2) = s.files) : (m.filter (stayP (idsOf (s.names ++ s.safe)))).map (·.2) = (sweptOf s).files := by
  unfold sweptOf
  simp only
  rw [← h, List.filter_map]
  congr 1
  apply List.filter_congr
  intro y _
  simp only [stayP, Function.comp]
  rw [idsOf_mem, stands_append]
structure Beside (base B : Nat) (w w' : World) : Prop where
  os : w'.os = w.os
  tape : w'.tape = w.tape
  output : w'.output = w.output
  size : w.heap.size ≤ w'.heap.size
  block : ∀ k, k < base → k ≠ B → w'.heap[k]? = w.heap[k]?
theorem Beside.refl (base B : Nat) (w : World) : Beside base B w w := ⟨rfl, rfl, rfl, Nat.le_refl _, fun _ _ _ => rfl⟩
theorem Beside.trans {base B : Nat} {a b c : World} (h : Beside base B a b) (k : Beside base B b c) : Beside base B a c :=
  ⟨k.os.trans h.os, k.tape.trans h.tape, k.output.trans h.output, Nat.le_trans h.size k.size, fun i hi hn => (k.block i hi hn).trans (h.block i hi hn)⟩
theorem Below_beside {base B : Nat} {w w' : World} (h : Below w.heap.size w w') (hb : base ≤ w.heap.size) : Beside base B w w' := ⟨h.os, h.tape, h.output, h.size, fun k hk _ => h.block k (by omega)⟩
theorem Beside.grown {base B : Nat} {a w w' : World} {r : Option Nat} (h : Beside base B a w) (hg : w.grownBy w' r) (hB : base ≤ w.heap.size) (hr : ∀ k, r = some k → base ≤ k ∨ k = B) : Beside base B a w' :=
  h.trans ⟨hg.os, hg.tape, hg.output, hg.size, fun k hk hn => hg.block k (by omega) (fun e => by have := hr k e.symm; omega)⟩
theorem Beside.drew {base B : Nat} {a w : World} (h : Beside base B a w) : Beside base B a w.drew := ⟨h.os, h.tape, h.output, h.size, h.block⟩
theorem Beside.below {base B : Nat} {w w' : World} (h : Beside base B w w') (hB : base ≤ B) : Below base w w' := ⟨h.os, h.tape, h.output, h.size, fun k hk => h.block k hk (by omega)⟩
def OwnS (w : World) (base B : Nat) (s : St) : Prop := True ∧ ∃ vf vn vs m, w.heap[B]? = some (.cells #[.int .i64 s.cap, vf, vn, vs, .int .i64 s.next] 35) ∧ m.map (·.2) = s.files ∧ OwnF w base vf m ∧ OwnN w base 146 vn s.names ∧ OwnN w base 146 vs s.safe ∧ Apart vn vs ∧ In64 s.cap ∧ In64 s.next
theorem OwnS.up {w w' : World} {base B : Nat} {s : St} (h : OwnS w base B s) (hb : Below w.heap.size w w') : OwnS w' base B s := by
  obtain ⟨h0, vf, vn, vs, m, hb1, hm, h1, h2, h3, h4⟩ := h
  exact ⟨h0, vf, vn, vs, m, blk_up hb1 hb, hm, h1.up hb, h2.up hb, h3.up hb, h4⟩
theorem OwnF.shapes {w : World} {base : Nat} {v : Value} {m : List FRow} (h : OwnF w base v m) : ∀ y ∈ m, (∃ a n c, y.1 = .slice a n c) ∧ In64 y.2.1 := by
  intro y hy
  have h1 := h.2.1 y hy
  obtain ⟨a, c, e, _⟩ := (Octs.own h1.1 h1.2.1).slice
  exact ⟨⟨a, _, c, e⟩, h1.2.2.2.1⟩
theorem OwnF.filter {w w' : World} {base : Nat} {v v' : Value} {m : List FRow} (p : FRow → Bool) {r : Option Nat} (h : OwnF w base v m) (hv : OwnR w' base 110 3 v' ((m.filter p).map frow)) (hg : w.grownBy w' v.ownBlock) : OwnF w' base v' (m.filter p) := by
  refine ⟨hv, fun y hy => ?_, h.2.2.filter p⟩
  have h1 := h.2.1 y (List.mem_filter.1 hy).1
  exact ⟨h1.1.far hg (own_own_ne h1.1 h.1.2 (by decide)), h1.2⟩
theorem blk_two0 (w : World) (o1 o2 : Obj) : ((w.alloc o1).alloc o2).heap[w.heap.size]? = some o1 := blk_up (blk_new w o1) (up_al (Below.refl _ _) _)
theorem blk_two1 (w : World) (o1 o2 : Obj) : ((w.alloc o1).alloc o2).heap[w.heap.size + 1]? = some o2 := by
  have := blk_new (w.alloc o1) o2
  simpa using this
set_option maxHeartbeats 400000 in
theorem sweep_any (s : St) (base B : Nat) (w : World) (hS : OwnS w base B s) (hl1 : s.files.length ≤ 256) (hl2 : s.names.length ≤ 256) (hl3 : s.safe.length ≤ 256) (hbase : base ≤ w.heap.size) :
    Calls Tryz.prog 108 #[.pointer (some ⟨B, 0, none⟩)] w fun e w' => e = .returned (.tuple #[]) ∧ OwnS w' base B (sweptOf s) ∧ Beside base B w w' := by
  obtain ⟨hB, vf, vn, vs, m, hb, hm, of, on, os, hap, hi1, hi2⟩ := hS
  have hml : m.length ≤ 256 := by
    have := congrArg List.length hm
    rw [List.length_map] at this
    omega
  have HW : Hid (w.heap[B]? = some (.cells #[.int .i64 s.cap, vf, vn, vs, .int .i64 s.next] 35) ∧ m.map (·.2) = s.files ∧ OwnF w base vf m ∧ OwnN w base 146 vn s.names ∧ OwnN w base 146 vs s.safe ∧ Apart vn vs ∧ In64 s.cap ∧ In64 s.next) := ⟨hb, hm, of, on, os, hap, hi1, hi2⟩
  obtain ⟨a1, c1, e1, _, _⟩ := (NamesW.own on).len
  obtain ⟨a2, c2, e2, _, _⟩ := (NamesW.own os).len
  obtain ⟨a3, c3, e3, _, _⟩ := (Rws.own of.1).len
  rw [List.length_map] at e3
  subst e1
  subst e2
  subst e3
  have q1 := blk_cell hb 1 _ rfl
  have q2 := blk_cell hb 2 _ rfl
  have q3 := blk_cell hb 3 _ rfl
  have f1 := blk_frozen hb 1
  clear hb hm of on os hap hi1 hi2
  have HC : Hid (∀ (A : Nat) (X : World), Below w.heap.size w X → X.cell? ⟨A, 0, none⟩ = some (.slice a1 s.names.length c1) → X.cell? ⟨A, 1, none⟩ = some (.slice a2 s.safe.length c2) → Calls Tryz.prog 148 #[.slice (some ⟨A, 0, none⟩) 2 2] X fun e w' => ∃ mb, e = .returned (.map (some mb)) ∧ Hid (SetW w' mb (idsOf (s.names ++ s.safe))) ∧ Hid (Below X.heap.size X w') ∧ Hid (Below w.heap.size w w') ∧
      w'.cell? ⟨B, 2, none⟩ = some (.slice a1 s.names.length c1) ∧ w'.cell? ⟨B, 3, none⟩ = some (.slice a2 s.safe.length c2)) := by
    intro A X u1 c0 c1'
    have := numbers_any [(.slice a1 s.names.length c1, s.names), (.slice a2 s.safe.length c2, s.safe)] A 2 X (by simp) (by
        intro j hj
        have : j = 0 ∨ j = 1 := by simp at hj; omega
        rcases this with rfl | rfl
        · exact c0
        · exact c1') (by
        intro j hj
        have : j = 0 ∨ j = 1 := by simp at hj; omega
        rcases this with rfl | rfl
        · exact (NamesW.own HW.out.2.2.2.1).up u1
        · exact (NamesW.own HW.out.2.2.2.2.1).up u1) (by simp [allN, maxLen]; omega)
    refine this.mono ?_
    rintro e w1 ⟨rfl, hset, hb1⟩
    have e1 : allN [(Value.slice a1 s.names.length c1, s.names), (Value.slice a2 s.safe.length c2, s.safe)] = s.names ++ s.safe := by simp [allN]
    rw [e1] at hset
    have u2 := up_trans u1 hb1
    exact ⟨_, rfl, hset, hb1, u2, (u2.cell (World.block_lt_of_cell? w _ q2)).trans q2, (u2.cell (World.block_lt_of_cell? w _ q3)).trans q3⟩
  go_enter Tryz.func108, Tryz.ntmps108
  go_upto_region 0 with fail
  go_cut [2] from 2 to 12 (fun s2 wx => ∃ NB mb, s2 = .pointer (some ⟨NB, 0, none⟩) ∧ wx.cell? ⟨NB, 0, none⟩ = some (.map (some mb)) ∧ w.heap.size ≤ NB ∧ Hid (SetW wx mb (idsOf (s.names ++ s.safe))) ∧ Hid (Below w.heap.size w wx))
  case first =>
    have n1 := World.new_ne w _ q2
    have hBl := World.block_lt_of_cell? w _ q2
    have n2 : ¬ (B = w.heap.size + 1) := by simp at hBl; omega
    have n3 : ¬ (w.heap.size + 1 = B) := fun h => n2 h.symm
    clear hBl
    refine wp_region_held_drew (S := (fun w' => w'.cell? ⟨B, 2, none⟩ = some (.slice a1 s.names.length c1) ∧ w'.cell? ⟨B, 3, none⟩ = some (.slice a2 s.safe.length c2))) (by kernel_rfl) (by (try dsimp only); go_keep) (fun hHeld => ?_)
    refine wpAnyH_take (i := 0) (v := ?_) rfl (by kernel_rfl) (by kernel_rfl) (by kernel_rfl) (fun _ _ _ h => h) (Or.inl ⟨by kernel_rfl, ?_⟩) (by assumption) ?_
    rotate_left
    focus (intro w hSw; (try dsimp only at hSw); go_simp; (try with_reducible rfl); done)
    try simp only [Act.put, List.getElem_toArray, List.getElem_cons_zero, List.getElem_cons_succ, List.setIfInBounds_toArray, List.set_cons_zero, List.set_cons_succ]
    refine wpAnyH_take (i := 1) (v := ?_) rfl (by kernel_rfl) (by kernel_rfl) (by kernel_rfl) (fun _ _ _ h => h) (Or.inl ⟨by kernel_rfl, ?_⟩) (by assumption) ?_
    rotate_left
    focus (intro w hSw; (try dsimp only at hSw); go_simp; (try with_reducible rfl); done)
    try simp only [Act.put, List.getElem_toArray, List.getElem_cons_zero, List.getElem_cons_succ, List.setIfInBounds_toArray, List.set_cons_zero, List.set_cons_succ]
    refine wpAnyH_take (i := 2) (v := ?_) rfl (by kernel_rfl) (by kernel_rfl) (by kernel_rfl) (fun _ _ _ h => h) (Or.inl ⟨by kernel_rfl, ?_⟩) (by assumption) ?_
    rotate_left
    focus (intro w hSw; (try dsimp only at hSw); go_simp; (try with_reducible rfl); done)
    try simp only [Act.put, List.getElem_toArray, List.getElem_cons_zero, List.getElem_cons_succ, List.setIfInBounds_toArray, List.set_cons_zero, List.set_cons_succ]
    refine wpAnyH_take (i := 3) (v := ?_) rfl (by kernel_rfl) (by kernel_rfl) (by kernel_rfl) (fun _ _ _ h => h) (Or.inl ⟨by kernel_rfl, ?_⟩) (by assumption) ?_
    rotate_left
    focus (intro w hSw; (try dsimp only at hSw); go_simp; (try with_reducible rfl); done)
    try simp only [Act.put, List.getElem_toArray, List.getElem_cons_zero, List.getElem_cons_succ, List.setIfInBounds_toArray, List.set_cons_zero, List.set_cons_succ]
    refine wpAnyH_take (i := 4) (v := ?_) rfl (by kernel_rfl) (by kernel_rfl) (by kernel_rfl) (fun _ _ _ h => h) (Or.inl ⟨by kernel_rfl, ?_⟩) (by assumption) ?_
    rotate_left
    focus (intro w hSw; (try dsimp only at hSw); go_simp; (try with_reducible rfl); done)
    try simp only [Act.put, List.getElem_toArray, List.getElem_cons_zero, List.getElem_cons_succ, List.setIfInBounds_toArray, List.set_cons_zero, List.set_cons_succ]
    refine wpAnyH_take (i := 5) (v := ?_) rfl (by kernel_rfl) (by kernel_rfl) (by kernel_rfl) (fun _ _ _ h => h) (Or.inl ⟨by kernel_rfl, ?_⟩) (by assumption) ?_
    rotate_left
    focus (intro w hSw; (try dsimp only at hSw); go_simp; (try with_reducible rfl); done)
    try simp only [Act.put, List.getElem_toArray, List.getElem_cons_zero, List.getElem_cons_succ, List.setIfInBounds_toArray, List.set_cons_zero, List.set_cons_succ]
    refine wpAnyH_take (i := 6) (v := ?_) rfl (by kernel_rfl) (by kernel_rfl) (by kernel_rfl) (fun _ _ _ h => h) (Or.inl ⟨by kernel_rfl, ?_⟩) (by assumption) ?_
    rotate_left
    focus (intro w hSw; (try dsimp only at hSw); go_simp; (try with_reducible rfl); done)
    try simp only [Act.put, List.getElem_toArray, List.getElem_cons_zero, List.getElem_cons_succ, List.setIfInBounds_toArray, List.set_cons_zero, List.set_cons_succ]
    refine wpAnyH_take (i := 7) (v := ?_) rfl (by kernel_rfl) (by kernel_rfl) (by kernel_rfl) (fun _ _ _ h => h) (Or.inl ⟨by kernel_rfl, ?_⟩) (by assumption) ?_
    rotate_left
    focus (intro w hSw; (try dsimp only at hSw); go_simp; (try with_reducible rfl); done)
    try simp only [Act.put, List.getElem_toArray, List.getElem_cons_zero, List.getElem_cons_succ, List.setIfInBounds_toArray, List.set_cons_zero, List.set_cons_succ]
    refine wpAnyH_ready (rs := [8, 10]) (by kernel_rfl) (by simp) ?_
    refine AllReadyH.cons rfl (fun K hK => ?_) (AllReadyH.cons rfl (fun K hK => ?_) (AllReadyH.nil))
    · go_simp
      go_wp2_with fail
      refine hK.out _ _ (by (try dsimp only); go_keep) (fun hHeld => ?_)
      clear hK K
      try simp only [Act.put, List.getElem_toArray, List.getElem_cons_zero, List.getElem_cons_succ, List.setIfInBounds_toArray, List.set_cons_zero, List.set_cons_succ]
      refine wpAnyH_ready (rs := [9, 10]) (by kernel_rfl) (by simp) ?_
      refine AllReadyH.cons rfl (fun K hK => ?_) (AllReadyH.cons rfl (fun K hK => ?_) (AllReadyH.nil))
      · go_simp
        refine (HC.out w.heap.size (w.drew.alloc (.cells #[.slice a1 s.names.length c1, .slice a2 s.safe.length c2] 33)) (up_al (up_dr (Below.refl _ _)) _) (blk_cell (blk_new w.drew (.cells #[.slice a1 s.names.length c1, .slice a2 s.safe.length c2] 33)) 0 _ rfl) (blk_cell (blk_new w.drew (.cells #[.slice a1 s.names.length c1, .slice a2 s.safe.length c2] 33)) 1 _ rfl)).mono ?_
        rintro e w' ⟨mb, rfl, hset, hbx, hbw, z2, z3⟩
        go_wp2_with fail
        refine hK.out _ _ (by (try dsimp only); go_keep) (fun hHeld => ?_)
        clear hK K
        try simp only [Act.put, List.getElem_toArray, List.getElem_cons_zero, List.getElem_cons_succ, List.setIfInBounds_toArray, List.set_cons_zero, List.set_cons_succ]
        refine wpAnyH_ready (rs := [10]) (by kernel_rfl) (by simp) ?_
        refine AllReadyH.cons rfl (fun K hK => ?_) AllReadyH.nil
        go_simp
        go_wp2_with fail
        refine hK.out _ _ (by (try dsimp only); go_keep) (fun hHeld => ?_)
        clear hK K
        try simp only [Act.put, List.getElem_toArray, List.getElem_cons_zero, List.getElem_cons_succ, List.setIfInBounds_toArray, List.set_cons_zero, List.set_cons_succ]
        refine wpAnyH_ready (rs := [11]) (by kernel_rfl) (by simp) ?_
        refine AllReadyH.cons rfl (fun K hK => ?_) AllReadyH.nil
        go_simp
        go_wp2_with fail
        refine hK.out _ _ (by (try dsimp only); go_keep) (fun hHeld => ?_)
        clear hK K
        try simp only [Act.put, List.getElem_toArray, List.getElem_cons_zero, List.getElem_cons_succ, List.setIfInBounds_toArray, List.set_cons_zero, List.set_cons_succ]
        refine wpAnyH_done (by kernel_rfl) ?_ _
        go_wp2_with fail
        go_meet
        case rel =>
          exact ⟨w'.heap.size, mb, rfl, blk_cell (blk_new w' (.cells #[.map (some mb)] 233)) 0 _ rfl, hbw.out.size, hset.out.up (up_al (Below.refl _ _) _), up_al hbw.out _⟩
      · go_simp
        go_wp2_with fail
        refine hK.out _ _ (by (try dsimp only); go_keep) (fun hHeld => ?_)
        clear hK K
        try simp only [Act.put, List.getElem_toArray, List.getElem_cons_zero, List.getElem_cons_succ, List.setIfInBounds_toArray, List.set_cons_zero, List.set_cons_succ]
        refine wpAnyH_ready (rs := [9]) (by kernel_rfl) (by simp) ?_
        refine AllReadyH.cons rfl (fun K hK => ?_) AllReadyH.nil
        go_simp
        refine (HC.out w.heap.size ((w.drew.alloc (.cells #[.slice a1 s.names.length c1, .slice a2 s.safe.length c2] 33)).alloc (.cells #[.map none] 233)) (up_al (up_al (up_dr (Below.refl _ _)) _) _) (blk_cell (blk_two0 w.drew (.cells #[.slice a1 s.names.length c1, .slice a2 s.safe.length c2] 33) (.cells #[.map none] 233)) 0 _ rfl) (blk_cell (blk_two0 w.drew (.cells #[.slice a1 s.names.length c1, .slice a2 s.safe.length c2] 33) (.cells #[.map none] 233)) 1 _ rfl)).mono ?_
        rintro e w' ⟨mb, rfl, hset, hbx, hbw, z2, z3⟩
        have zb := blk_up (blk_two1 w.drew (.cells #[.slice a1 s.names.length c1, .slice a2 s.safe.length c2] 33) (.cells #[.map none] 233)) hbx.out
        have zc : w'.cell? ⟨w.heap.size + 1, 0, none⟩ = some (.map none) := blk_cell zb 0 _ rfl
        have zf : w'.frozen? ⟨w.heap.size + 1, 0, none⟩ = false := blk_frozen zb 0
        clear zb
        go_wp2_with fail
        refine hK.out _ _ (by (try dsimp only); go_keep) (fun hHeld => ?_)
        clear hK K
        try simp only [Act.put, List.getElem_toArray, List.getElem_cons_zero, List.getElem_cons_succ, List.setIfInBounds_toArray, List.set_cons_zero, List.set_cons_succ]
        refine wpAnyH_ready (rs := [11]) (by kernel_rfl) (by simp) ?_
        refine AllReadyH.cons rfl (fun K hK => ?_) AllReadyH.nil
        go_simp
        go_wp2_with fail
        refine hK.out _ _ (by (try dsimp only); go_keep) (fun hHeld => ?_)
        clear hK K
        try simp only [Act.put, List.getElem_toArray, List.getElem_cons_zero, List.getElem_cons_succ, List.setIfInBounds_toArray, List.set_cons_zero, List.set_cons_succ]
        refine wpAnyH_done (by kernel_rfl) ?_ _
        go_wp2_with fail
        go_meet
        case rel =>
          have g1 := grown_set w' ⟨w.heap.size + 1, 0, none⟩ (.map (some mb))
          have hn : some mb ≠ some (w.heap.size + 1) := by
            intro q
            injection q with q
            obtain ⟨D, ⟨es, clock, hh, _⟩, _⟩ := hset.out
            rw [q] at hh
            simp [World.cell?, hh] at zc
          exact ⟨w.heap.size + 1, mb, rfl, World.cell?_setCell_same (h := zc) .., by omega, hset.out.kept g1 hn, hbw.out.grown g1 hbw.out.size (fun j hj => by injection hj with hj; rw [← hj]; first | exact Nat.le_succ _ | exact Nat.le_refl _)⟩
    · go_simp
      go_wp2_with fail
      refine hK.out _ _ (by (try dsimp only); go_keep) (fun hHeld => ?_)
      clear hK K
      try simp only [Act.put, List.getElem_toArray, List.getElem_cons_zero, List.getElem_cons_succ, List.setIfInBounds_toArray, List.set_cons_zero, List.set_cons_succ]
      refine wpAnyH_ready (rs := [8]) (by kernel_rfl) (by simp) ?_
      refine AllReadyH.cons rfl (fun K hK => ?_) AllReadyH.nil
      go_simp
      go_wp2_with fail
      refine hK.out _ _ (by (try dsimp only); go_keep) (fun hHeld => ?_)
      clear hK K
      try simp only [Act.put, List.getElem_toArray, List.getElem_cons_zero, List.getElem_cons_succ, List.setIfInBounds_toArray, List.set_cons_zero, List.set_cons_succ]
      refine wpAnyH_ready (rs := [9]) (by kernel_rfl) (by simp) ?_
      refine AllReadyH.cons rfl (fun K hK => ?_) AllReadyH.nil
      go_simp
      refine (HC.out (w.heap.size + 1) ((w.drew.alloc (.cells #[.map none] 233)).alloc (.cells #[.slice a1 s.names.length c1, .slice a2 s.safe.length c2] 33)) (up_al (up_al (up_dr (Below.refl _ _)) _) _) (blk_cell (blk_two1 w.drew (.cells #[.map none] 233) (.cells #[.slice a1 s.names.length c1, .slice a2 s.safe.length c2] 33)) 0 _ rfl) (blk_cell (blk_two1 w.drew (.cells #[.map none] 233) (.cells #[.slice a1 s.names.length c1, .slice a2 s.safe.length c2] 33)) 1 _ rfl)).mono ?_
      rintro e w' ⟨mb, rfl, hset, hbx, hbw, z2, z3⟩
      have zb := blk_up (blk_two0 w.drew (.cells #[.map none] 233) (.cells #[.slice a1 s.names.length c1, .slice a2 s.safe.length c2] 33)) hbx.out
      have zc : w'.cell? ⟨w.heap.size, 0, none⟩ = some (.map none) := blk_cell zb 0 _ rfl
      have zf : w'.frozen? ⟨w.heap.size, 0, none⟩ = false := blk_frozen zb 0
      clear zb
      go_wp2_with fail
      refine hK.out _ _ (by (try dsimp only); go_keep) (fun hHeld => ?_)
      clear hK K
      try simp only [Act.put, List.getElem_toArray, List.getElem_cons_zero, List.getElem_cons_succ, List.setIfInBounds_toArray, List.set_cons_zero, List.set_cons_succ]
      refine wpAnyH_ready (rs := [11]) (by kernel_rfl) (by simp) ?_
      refine AllReadyH.cons rfl (fun K hK => ?_) AllReadyH.nil
      go_simp
      go_wp2_with fail
      refine hK.out _ _ (by (try dsimp only); go_keep) (fun hHeld => ?_)
      clear hK K
      try simp only [Act.put, List.getElem_toArray, List.getElem_cons_zero, List.getElem_cons_succ, List.setIfInBounds_toArray, List.set_cons_zero, List.set_cons_succ]
      refine wpAnyH_done (by kernel_rfl) ?_ _
      go_wp2_with fail
      go_meet
      case rel =>
        have g1 := grown_set w' ⟨w.heap.size, 0, none⟩ (.map (some mb))
        have hn : some mb ≠ some (w.heap.size) := by
          intro q
          injection q with q
          obtain ⟨D, ⟨es, clock, hh, _⟩, _⟩ := hset.out
          rw [q] at hh
          simp [World.cell?, hh] at zc
        exact ⟨w.heap.size, mb, rfl, World.cell?_setCell_same (h := zc) .., by omega, hset.out.kept g1 hn, hbw.out.grown g1 hbw.out.size (fun j hj => by injection hj with hj; rw [← hj]; first | exact Nat.le_succ _ | exact Nat.le_refl _)⟩
  case rest =>
  obtain ⟨NB, mb, rfl, zc, hNB, hset, up⟩ := hcut
  have HB : Hid (wc.heap[B]? = some (.cells #[.int .i64 s.cap, .slice a3 m.length c3, .slice a1 s.names.length c1, .slice a2 s.safe.length c2, .int .i64 s.next] 35)) := blk_up HW.out.1 up.out
  have HF : Hid (OwnF wc base (.slice a3 m.length c3) m) := HW.out.2.2.1.up up.out
  have HN : Hid (OwnN wc base 146 (.slice a1 s.names.length c1) s.names ∧ OwnN wc base 146 (.slice a2 s.safe.length c2) s.safe) := ⟨HW.out.2.2.2.1.up up.out, HW.out.2.2.2.2.1.up up.out⟩
  clear q1 q2 q3 f1
  have q1 := blk_cell HB.out 1 _ rfl
  have hne : (Value.slice a3 m.length c3).ownBlock ≠ some NB := by
    intro q
    have := (HW.out.2.2.1.1.2.lt NB q).2
    omega
  go_wp2_with fail
  refine (deleteF_any m _ (idsOf (s.names ++ s.safe)) mb NB base wc HF.out.1 HF.out.shapes hml hset.out zc hne (Nat.le_trans hbase up.out.size)).mono ?_
  rintro e w1 ⟨v', rfl, ho, hg, hob⟩
  obtain ⟨a4, c4, e4, _, _⟩ := (Rws.own ho).len
  rw [List.length_map] at e4
  have hnB : some B ≠ (Value.slice a3 m.length c3).ownBlock := by
    have := own_blk_ne HF.out.1.2 HB.out (by decide)
    rcases this with h | h
    · rw [h]; simp
    · exact fun q => h q.symm
  have HB1 : Hid (w1.heap[B]? = some (.cells #[.int .i64 s.cap, .slice a3 m.length c3, .slice a1 s.names.length c1, .slice a2 s.safe.length c2, .int .i64 s.next] 35)) := blk_grown HB.out hg hnB
  have HF1 : Hid (OwnF w1 base v' (m.filter (stayP (idsOf (s.names ++ s.safe))))) := HF.out.filter (r := none) _ ho hg
  have HN1 : Hid (OwnN w1 base 146 (.slice a1 s.names.length c1) s.names ∧ OwnN w1 base 146 (.slice a2 s.safe.length c2) s.safe) := ⟨HN.out.1.far hg (own_own_ne HN.out.1.2.2 HF.out.1.2 (by decide)), HN.out.2.far hg (own_own_ne HN.out.2.2.2 HF.out.1.2 (by decide))⟩
  have up1 : Hid (Beside base B w w1) := (Below_beside up.out hbase).grown hg (Nat.le_trans hbase up.out.size) (fun j hj => .inl (HF.out.1.2.lt j hj).1)
  clear ho hg hob zc hne hnB q1
  subst e4
  have q1 := blk_cell HB1.out 1 _ rfl
  have f1 := blk_frozen HB1.out 1
  go_wp2_with fail
  go_end0
  have g5 := grown_set w1 ⟨B, 1, none⟩ (.slice a4 (m.filter (stayP (idsOf (s.names ++ s.safe)))).length c4)
  refine ⟨rfl, ⟨hB, _, _, _, _, blk_set HB1.out 1 _, swept_rows m s HW.out.2.1, ?_, ?_, ?_, HW.out.2.2.2.2.2.1, HW.out.2.2.2.2.2.2.1, HW.out.2.2.2.2.2.2.2⟩, ?_⟩
  · exact HF1.out.far g5 (own_blk_ne HF1.out.1.2 HB1.out (by decide)) (fun y hy => own_blk_ne (HF1.out.2.1 y hy).1 HB1.out (by decide))
  · exact HN1.out.1.far g5 (own_blk_ne HN1.out.1.2.2 HB1.out (by decide))
  · exact HN1.out.2.far g5 (own_blk_ne HN1.out.2.2.2 HB1.out (by decide))
  · exact up1.out.grown g5 (Nat.le_trans hbase up1.out.size) (fun j hj => by injection hj with hj; rw [← hj]; exact .inr rfl)
end Go.Proofs.YtnchjlimkgbfpaaGreatDoor

namespace Go.Proofs.YtnchjlimkgbfpaaGreatDoor
open Go.RowKit
set_option linter.unusedVariables false
set_option maxRecDepth 20000
set_option maxHeartbeats 2000000 in
theorem deleteN_any (l : List (List Int × Int)) (v : Value) (i base : Nat) (w : World) (hv : OwnN w base 146 v l) (hi : i < l.length) (hl : l.length ≤ 256) (hbase : base ≤ w.heap.size) :
    Calls Tryz.prog 178 #[v, .int .i64 i, .int .i64 ((i : Int) + 1)] w fun e w' => ∃ v', e = .returned v' ∧ OwnN w' base 146 v' (l.eraseIdx i) ∧ w.grownBy w' v.ownBlock ∧ v'.ownBlock = v.ownBlock := by
  have HV : Hid (OwnN w base 146 v l) := hv
  obtain ⟨a, cap, ev, hcap, hmax⟩ := (NamesW.own hv).len
  have hshape : ∃ g, a = some ⟨g, 0, none⟩ := by
    rcases hv.2.2.2 with ⟨e2, e3⟩ | ⟨g, cap', cur, e2, _⟩
    · rw [List.length_map] at e3; omega
    · rw [e2] at ev
      simp at ev
      exact ⟨g, ev.1.symm⟩
  obtain ⟨g, rfl⟩ := hshape
  subst ev
  obtain ⟨cur, hh, hbg, hnc, hmx, hsz, htk, hll⟩ := hv.2.blk
  clear hv
  unfold maxLen at hmax
  have hz : ∀ w, (zeroValue 146).run Tryz.prog w = .ok (.agg #[.string ⟨#[]⟩, .int .i64 0]) w := Tryz.zeroValue146
  obtain ⟨i0, hi0, hz0, hz1, hz2⟩ := info_some Tryz.info146
  obtain ⟨news, hnews⟩ : ∃ news, news = ((l.map nrow).drop (i + 1)).flatten := ⟨_, rfl⟩
  have hnl : news.length = (l.length - (i + 1)) * 2 := by
    rw [hnews, flat_rows (sz := 2) _ (fun cs hcs => HV.out.2.1 cs (List.mem_of_mem_drop hcs)), List.length_drop, List.length_map]
  have hn1 : ∀ u ∈ news, u.oneCell' = true := by
    intro u hu
    rw [hnews] at hu
    obtain ⟨cs, q1, q2⟩ := List.mem_flatten.1 hu
    exact nrow_one l cs (List.mem_of_mem_drop q1) u q2
  have hcells : ∀ j u, news[j]? = some u → w.cell? ⟨g, (i + 1) * 2 + j, none⟩ = some u := by
    intro j u hj
    refine blk_cell hh _ u ?_
    have hjl : j < news.length := (List.getElem?_eq_some_iff.1 hj).1
    have e1 : news = ((l.map nrow).flatten).drop ((i + 1) * 2) := by rw [hnews, flat_drop _ HV.out.2.1]
    rw [e1, ← htk, List.getElem?_drop, List.getElem?_take] at hj
    split at hj
    · simpa using hj
    · cases hj
  obtain ⟨A, hA⟩ : ∃ A : Addr, (if cap = i + 1 then some (⟨g, 0, none⟩ : Addr) else some ⟨g, (i + 1) * 2, none⟩) = some A := by
    by_cases h : cap = i + 1
    · exact ⟨_, if_pos h⟩
    · exact ⟨_, if_neg h⟩
  have hsrc : ∀ j u, news[j]? = some u → w.drew.cell? (A.add j) = some u := by
    intro j u hj
    have hjl : j < news.length := (List.getElem?_eq_some_iff.1 hj).1
    have hne : ¬ cap = i + 1 := by omega
    have hA2 : A = ⟨g, (i + 1) * 2, none⟩ := by
      rw [if_neg hne] at hA
      exact (Option.some.inj hA).symm
    rw [hA2, Addr.add_lit]
    exact hcells j u hj
  have hspare : ∀ j, j < news.length → (w.drew.cell? ⟨g, 0 + i * 2 + j, none⟩).isSome = true ∧ w.drew.frozen? ⟨g, 0 + i * 2 + j, none⟩ = false := by
    intro j hj
    refine ⟨?_, blk_frozen (w := w) hh _⟩
    have : 0 + i * 2 + j < cur.size := by rw [hsz]; omega
    have e : w.cell? ⟨g, 0 + i * 2 + j, none⟩ = some cur[0 + i * 2 + j] := blk_cell hh _ _ (by simp)
    show (w.cell? _).isSome = true
    rw [e]
    rfl
  have HS : Hid ((∀ j u, news[j]? = some u → w.drew.cell? (A.add j) = some u) ∧ (∀ j, j < news.length → (w.drew.cell? ⟨g, 0 + i * 2 + j, none⟩).isSome = true ∧ w.drew.frozen? ⟨g, 0 + i * 2 + j, none⟩ = false) ∧ news.length = (l.length - (i + 1)) * 2 ∧ ∀ u ∈ news, u.oneCell' = true) := ⟨hsrc, hspare, hnl, hn1⟩
  clear hsrc hspare hnl hn1 hcells
  have hwr : IntKind.i64.wrap ((i : Int) + 1) = (i : Int) + 1 := by rw [IntKind.wrap_i64]; omega
  have hp0 : (0 : Int) ≤ (i : Int) + 1 := by omega
  have hp1 : (i : Int) + 1 ≤ (l.length : Int) := by omega
  have hp2 : ((i : Int) + 1).toNat = i + 1 := by omega
  have hp3 : ((i : Int) == (i : Int) + 1) = false := by rw [beq_eq_false_iff_ne]; omega
  have hp4 : (i : Int) ≤ (i : Int) + 1 := by omega
  have hic : i ≤ cap := by omega
  go_enter Tryz.func178, Tryz.ntmps178
  have HB : Hid (w.heap[g]? = some (.cells cur 146) ∧ base ≤ g ∧ cap ≤ maxLen ∧ cur.size = cap * 2 ∧ cur.toList.take (l.length * 2) = (l.map nrow).flatten ∧ news = ((l.map nrow).drop (i + 1)).flatten) := ⟨hh, hbg, hmx, hsz, htk, hnews⟩
  clear hh hbg hmx hsz htk hnews hll hz0
  go_wp2_with fail
  go_region_law (refine step_append_room rfl (.tmp 22) (.tmp 25) 33 rfl 146 i0 2 Tryz.underlying33 hi0 hz1 g 0 i cap (by simp [Act.eval, Act.put]) A (l.length - (i + 1)) (cap - (i + 1)) news (by simp [Act.eval, Act.put]) HS.out.2.2.1 HS.out.1 HS.out.2.2.2 (by omega) HS.out.2.1 ?_)
  clear hA
  obtain ⟨W, hW⟩ : ∃ W, W = w.drew.setCells g (i * 2) news := ⟨_, rfl⟩
  obtain ⟨n', hn'⟩ : ∃ n', n' = i + (l.length - (i + 1)) := ⟨_, rfl⟩
  have hn2 : n' + 1 = l.length := by omega
  have hfit1 : i * 2 + news.length ≤ cur.size := by rw [HB.out.2.2.2.1, HS.out.2.2.1]; omega
  have bw := blk_setCells news (i * 2) cur w.drew HB.out.1 hfit1
  rw [← hW] at bw
  rw [← hW, ← hn']
  have hsz2 : (over cur.toList (i * 2) news).toArray.size = cap * 2 := by
    have := over_len cur.toList (i * 2) news (by simpa using hfit1)
    simpa [HB.out.2.2.2.1] using this
  have hcl := fun ty c => run_clear_rows W 33 146 ty (.agg #[.string ⟨#[]⟩, .int .i64 0]) Tryz.underlying33 hz (by decide) g (n' * 2) 1 c (by omega) _ bw.1 (by simp [Value.cells]; have := hsz2; simp at this; omega)
  generalize hzs : (Builtin.zeroCells (Value.agg #[.string ⟨#[]⟩, .int .i64 0]).cells 1).toList = zs at hcl
  have hzl : zs.length = 2 := by rw [← hzs]; simp [Builtin.zeroCells, Value.cells]
  obtain ⟨V, hV⟩ : ∃ V, V = W.setRow g (over (over cur.toList (i * 2) news).toArray.toList (n' * 2) zs).toArray := ⟨_, rfl⟩
  have bv := blk_setRow bw.1 (over (over cur.toList (i * 2) news).toArray.toList (n' * 2) zs).toArray
  rw [← hV] at bv hcl
  have HOw : Hid (OwnN V base 146 (.slice (some ⟨g, 0, none⟩) n' cap) (l.eraseIdx i)) := by
    refine ⟨fun p hp => HV.out.1 p (List.mem_of_mem_eraseIdx hp), ?_⟩
    have hx : ∀ cs ∈ (l.eraseIdx i).map nrow, cs.length = 2 := by
      intro cs hcs
      obtain ⟨p, _, rfl⟩ := List.mem_map.1 hcs
      rfl
    have hlen : ((l.eraseIdx i).map nrow).length = n' := by rw [List.length_map, List.length_eraseIdx, if_pos hi]; omega
    have hW1 : OwnR W base 146 2 (.slice (some ⟨g, 0, none⟩) n' cap) ((l.eraseIdx i).map nrow) := by
      refine own_of_blk hx bw.1 HB.out.2.1 (by omega) HB.out.2.2.1 hsz2 ?_ hlen
      have e1 : ((l.eraseIdx i).map nrow).flatten = ((l.map nrow).take i).flatten ++ news := by
        rw [List.eraseIdx_eq_take_drop_succ, List.map_append, List.flatten_append, HB.out.2.2.2.2.2, List.map_take, List.map_drop]
      have e2 : (over cur.toList (i * 2) news).toArray.toList = over cur.toList (i * 2) news := by simp
      have e3 : ((l.map nrow).take i).flatten = cur.toList.take (i * 2) := by
        rw [← flat_take _ HV.out.2.1 i, ← HB.out.2.2.2.2.1, List.take_take, Nat.min_eq_left (by omega)]
      rw [e2, e1, e3]
      unfold over
      have hlt : (cur.toList.take (i * 2) ++ news).length = n' * 2 := by
        rw [List.length_append, List.length_take, HS.out.2.2.1]
        have : cur.toList.length = cap * 2 := by simpa using HB.out.2.2.2.1
        omega
      rw [List.take_append_of_le_length (by omega), List.take_of_length_le (by omega)]
    have := hW1.firstOver n' (Nat.le_refl _) _ bw.1 zs (by rw [hzl, hsz2]; omega) bv.1
    rw [List.take_of_length_le (by omega)] at this
    exact this
  have HG : Hid (w.grownBy V (some g)) := grown_trans (grown_trans (grown_up (up_dr (Below.refl _ _)) _) bw.2) bv.2
  have hd : l.length - n' = 1 := by omega
  have hne3 : ¬ cap = n' := by omega
  have hd1 : (n' : Int) ≤ (l.length : Int) := by omega
  have hd2 : (l.length : Int) ≤ (cap : Int) := by omega
  clear bw bv hV hW hsz2 hfit1 hzl hzs hn' hn2
  go_wp2_with fail
  go_ret
  exact ⟨_, rfl, HOw.out, HG.out, rfl⟩
end Go.Proofs.YtnchjlimkgbfpaaGreatDoor
